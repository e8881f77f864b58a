/- Several texts of the proof, one behind the other. -/
import Derived.Test.YtagaajlbkfkaiaaC11P
import Derived.Test.YtagaajlbkfkaiaaOmP
import Derived.Test.YtagaajlbkfkaiaaS4
/- The walks of slices.Equal at crossings, and of canon.both where both diagrams may be. -/
namespace Go.Proofs.Ytagaajlbkfkaiaa
open Go.RowKit
set_option maxHeartbeats 4000000
set_option maxRecDepth 100000
theorem Drawn.drB {w w':World} {a:Option Addr} {cap:Nat} {loops:Int} {C:List Cr} {D:Value} (h:Drawn w w' w.heap.size (.slice a C.length cap) loops C D) (hm:mayD C loops=true) (hb:Below w.heap.size w w') (hC:Crs w w.heap.size (.slice a C.length cap) C):
    ∃ gF cF gT cT,D=drV a cap C loops gF cF gT cT/\Dr w' a cap C gF gT/\w'.ownsRow w.heap.size 120 2 (.slice (some ⟨gF,0,none⟩) (2*C.length+1) cF) (2*C.length+1) (flat (ends C false C.length 0))/\
    w'.ownsRow w.heap.size 120 2 (.slice (some ⟨gT,0,none⟩) (2*C.length+1) cT) (2*C.length+1) (flat (ends C true C.length 0)):=by
 obtain⟨gF,cF,gT,cT,rfl,h1,h2⟩:=h.yes hm
 exact⟨gF,cF,gT,cT,rfl,⟨hC.up hb,(h1.lt gF rfl).2,(h2.lt gT rfl).2,QV4 h1 (QX9 _ _ _ _),QV4 h2 (QX9 _ _ _ _)⟩,h1,h2⟩
theorem equalCross_any (v1 v2:Value) (C D:List Cr) (w:World) (h1:Crs w w.heap.size v1 C) (h2:Crs w w.heap.size v2 D):
    Calls Try.prog 80 #[v1,v2] w fun e w'=>e=.returned (.bool (sameD 0 0 C D))/\Below w.heap.size w w':=by
 have HC1:=hidB h1
 have HC2:=hidB h2
 obtain⟨a1,c1,rfl,hn1,-⟩:=h1
 obtain⟨a2,c2,rfl,hn2,-⟩:=h2
 have hn1':C.length<=9223372036854775807:=hn1
 have hn2':D.length<=9223372036854775807:=hn2
 clear hn1 hn2
 by_cases hlen:C.length=D.length
 · have HLEN:Hid (C.length=D.length):=hlen
   have e2:D.length=C.length:=hlen.symm
   rw[e2]
   clear hlen e2 hn2'
   have hd2:((C.length:Int) != (C.length:Int))=false:=by simp
   go_enter Try.func80,Try.ntmps80
   go_wp2
   go_loopw [13] (fun v13 wr=>∃ i:Nat,i<=C.length/\v13=.int .i64 (i:Nat)/\Hid (∀ j,j<i->crEq (C.getD j Cr.none) (D.getD j Cr.none)=true)/\Below w.heap.size w wr) (fun v13 _=>C.length-(intOf v13).toNat)
   case atStart=>exact⟨0,Nat.zero_le _,rfl,fun j hj=>absurd hj (Nat.not_lt_zero _),Below.refl _ _⟩
   case round=>
    rename World=>W1
    obtain⟨i,hin,rfl,hall,hb⟩:=hrel
    have hszW:=hb.size
    by_cases hil:i<C.length
    · have hdi:decide ((i:Int)<(C.length:Int))=true:=by simp;omega
      have hdi2:decide (i<C.length)=true:=by simp;omega
      obtain⟨b1,o1,ea1,hb1,hC1⟩:=crs_some HC1.out (by omega)
      subst ea1
      obtain⟨x0,x1,x2,x3,x4⟩:=(hC1.on hb hb1) i hil
      have hl:=HLEN.out
      obtain⟨b2,o2,ea2,hb2,hC2⟩:∃ b off,a2=some ⟨b,off,none⟩/\b<w.heap.size/\CrossAt w b off D:=by
       obtain⟨a',cap',e,_,g⟩:=HC2.out
       injection e with e1 e2 e3
       obtain⟨b,off,h1,h2,h3⟩:=g (by omega)
       exact⟨b,off,by rw[e1,h1],h2,h3⟩
      subst ea2
      obtain⟨y0,y1,y2,y3,y4⟩:=(hC2.on hb hb2) i (by omega)
      clear hC1 hC2 hl
      obtain⟨x,hx⟩:∃ x,C.getD i Cr.none=x:=⟨_,rfl⟩
      obtain⟨y,hy⟩:∃ y,D.getD i Cr.none=y:=⟨_,rfl⟩
      rw[hx]at x0 x1 x2 x3 x4
      rw[hy]at y0 y1 y2 y3 y4
      have HXY:=hidB (show crEq (C.getD i Cr.none) (D.getD i Cr.none)=crEq x y by rw[hx,hy])
      clear hx hy
      have hb1w:b1<W1.heap.size:=by omega
      have hb2w:b2<W1.heap.size:=by omega
      have n0:(0:Int)<=(i:Int):=by omega
      have n1:(i:Int)<(C.length:Int):=by omega
      have hcmp:=neqCross x y
      cases hq:crEq x y with
      |true=>
       rw[hq]at hcmp
       simp only[Bool.not_true]at hcmp
       go_wp2
       go_quiet (fail)
       go_wp2
       go_roundw
       case rel=>
        refine⟨i+1,by omega,by go_num,fun j hj=>?_,below_drewN hb _⟩
        by_cases e:j=i
        · rw[e,HXY.out];exact hq
        · exact hall.out j (by omega)
       case measure=>simp only[intOf];omega
      |false=>
       rw[hq]at hcmp
       simp only[Bool.not_false]at hcmp
       have HNO:Hid (sameD 0 0 C D=false):=sameD_no (fun h=>by
        have:=h.2.2 i hil
        rw[HXY.out,hq]at this
        exact absurd this (by simp))
       go_wp2
       go_quiet (fail)
       go_wp2
       go_ret
       exact⟨QX8 HNO.out,below_drewN hb _⟩
    · obtain rfl:i=C.length:=by omega
      have HYES:=hidB ((sameD_iff 0 0 C D).2 ⟨rfl,HLEN.out,fun j hj=>hall.out j hj⟩)
      have hdi:decide ((C.length:Int)<(C.length:Int))=false:=by simp
      go_wp2
      go_ret
      exact⟨QX8 HYES.out,hb⟩
 · have hd2:((C.length:Int) != (D.length:Int))=true:=by rw[bne_iff_ne];omega
   have HNO : Hid (sameD 0 0 C D = false) := sameD_no (fun h => hlen h.2.1)
   go_enter Try.func80,Try.ntmps80
   go_wp2
   go_ret
   exact⟨QX8 HNO.out,Below.refl _ _⟩
theorem drew_blk {w:World} {k:Nat} {o:Option Obj} (h:w.heap[k]?=o):w.drew.heap[k]?=o:=h
theorem both_draw (v1 v2:Value) (C D:List Cr) (l1 l2:Int) (w:World) (hm:mayD C l1=true) (hm':mayD D l2=true) (h1:Crs w w.heap.size v1 C) (h2:Crs w w.heap.size v2 D):
    Calls Try.prog 79 #[.agg #[v1, .int .i64 l1], .agg #[v2, .int .i64 l2]] w fun e w' => ∃ a cap gF cF gT cT a' cap' gF' cF' gT' cT', e = .returned (.tuple #[drV a cap C l1 gF cF gT cT, drV a' cap' D l2 gF' cF' gT' cT', .bool true]) ∧ Dr w' a cap C gF gT ∧ Dr w' a' cap' D gF' gT' ∧ Below w.heap.size w w' := by
 have HC:=hidB h1
 have HD:=hidB h2
 have HM:=hidB hm
 have HM':Hid (mayD D l2=true):=hm'
 obtain⟨a,cap,rfl,-,-⟩:=h1
 obtain⟨a',cap',rfl,-,-⟩:=h2
 obtain⟨w0,hw0⟩:∃ w0,w0=(((w.alloc (.cells #[.slice a C.length cap,.int .i64 l1] 24)).alloc (.cells #[.slice a' D.length cap',.int .i64 l2] 24)).alloc (.cells #[.slice none 0 0,.int .i64 0,.slice none 0 0,.slice none 0 0] 61)).alloc (.cells #[.slice none 0 0,.int .i64 0,.slice none 0 0,.slice none 0 0] 61):=⟨_,rfl⟩
 have HW0:=hidB hw0
 have hs0:w0.heap.size=w.heap.size+4:=by rw[hw0];simp
 have HB0:=hidB (show Below w.heap.size w w0 by rw[hw0];exact(QV1 _ _ _ _).alloc (by simp;omega) _)
 have HT0:=hidB (show w0.heap[w.heap.size]?=some (.cells #[.slice a C.length cap,.int .i64 l1] 24 (0,0)) by rw[hw0];exact alloc_old (alloc_old (alloc_old (alloc_at rfl))))
 have HT1:=hidB (show w0.heap[w.heap.size+1]?=some (.cells #[.slice a' D.length cap',.int .i64 l2] 24 (0,0)) by rw[hw0];exact alloc_old (alloc_old (alloc_at (by simp))))
 have HT2:=hidB (show w0.heap[w.heap.size+2]?=some (.cells #[.slice none 0 0,.int .i64 0,.slice none 0 0,.slice none 0 0] 61 (0,0)) by rw[hw0];exact alloc_old (alloc_at (by simp)))
 have HT3:=hidB (show w0.heap[w.heap.size+3]?=some (.cells #[.slice none 0 0,.int .i64 0,.slice none 0 0,.slice none 0 0] 61 (0,0)) by rw[hw0];exact alloc_at (by simp))
 have HS0:=hidB hs0
 clear hw0 hs0
 go_enter Try.func79,Try.ntmps79
 go_upto_region 1 with(fail)
 rw[show w.heap.size+1+1+1=w.heap.size+3 from rfl,show w.heap.size+1+1=w.heap.size+2 from rfl,<-HW0.out]
 have HC0:=hidB (HC.out.up HB0.out)
 have t0:=QQ0 (i:=0) HT0.out rfl
 have t1:=QQ0 (i:=1) HT0.out rfl
 have l0:w.heap.size<w0.heap.size:=(Array.getElem?_eq_some_iff.1 HT0.out).1
 clear hm hm'
 go_wp2_with (go_at_call 50;refine(of_any _ C l1 _ HC0.out).mono ?_;rw[HM.out];rintro e9 w1 ⟨d,rfl,hb1,hd⟩;obtain⟨gF,cF,gT,cT,rfl,hdr,hF,hT⟩:=hd.drB HM.out hb1 HC0.out;refine Hid.out ?_)
 refine Lib.hid ?_
 unfold drV
 have hs0:=HS0.out
 have hs1:=hb1.size
 have HF1:Hid (w1.ownsRow (w.heap.size+4) 120 2 (.slice (some ⟨gF,0,none⟩) (2*C.length+1) cF) (2*C.length+1) (flat (ends C false C.length 0))/\w1.ownsRow (w.heap.size+4) 120 2 (.slice (some ⟨gT,0,none⟩) (2*C.length+1) cT) (2*C.length+1) (flat (ends C true C.length 0))):=⟨QX4 hF (by omega),QX4 hT (by omega)⟩
 have HB1:=hidB (HB0.out.trans (hb1.mono (by omega)))
 have h1b:=(hb1.block (w.heap.size+1) (by omega)).trans HT1.out
 have h2b:=(hb1.block (w.heap.size+2) (by omega)).trans HT2.out
 have h3b:=(hb1.block (w.heap.size+3) (by omega)).trans HT3.out
 have r0:=QQ0 (i:=0) h2b rfl
 have r1:=QQ0 (i:=1) h2b rfl
 have r2:=QQ0 (i:=2) h2b rfl
 have r3:=QQ0 (i:=3) h2b rfl
 have f0:=QQ2 (i:=0) h2b
 have f1:=QQ2 (i:=1) h2b
 have f2:=QQ2 (i:=2) h2b
 have f3:=QQ2 (i:=3) h2b
 have lq2:w.heap.size+2<w1.heap.size:=by omega
 have HG1 : Hid (w1.grownBy (st4 w1 (w.heap.size + 2) (.slice a C.length cap) (.int .i64 l1) (.slice (some ⟨gF, 0, none⟩) (2 * C.length + 1) cF) (.slice (some ⟨gT, 0, none⟩) (2 * C.length + 1) cT)) (some (w.heap.size + 2))) := QJ5 _ _ _ _ _ _
 have HX1:Hid ((st4 w1 (w.heap.size+2) (.slice a C.length cap) (.int .i64 l1) (.slice (some ⟨gF,0,none⟩) (2*C.length+1) cF) (.slice (some ⟨gT,0,none⟩) (2*C.length+1) cT)).heap[w.heap.size+2]?=some (.cells #[.slice a C.length cap,.int .i64 l1,.slice (some ⟨gF,0,none⟩) (2*C.length+1) cF,.slice (some ⟨gT,0,none⟩) (2*C.length+1) cT] 61 (0,0))/\(st4 w1 (w.heap.size+2) (.slice a C.length cap) (.int .i64 l1) (.slice (some ⟨gF,0,none⟩) (2*C.length+1) cF) (.slice (some ⟨gT,0,none⟩) (2*C.length+1) cT)).heap[w.heap.size+1]?=some (.cells #[.slice a' D.length cap',.int .i64 l2] 24 (0,0))/\(st4 w1 (w.heap.size+2) (.slice a C.length cap) (.int .i64 l1) (.slice (some ⟨gF,0,none⟩) (2*C.length+1) cF) (.slice (some ⟨gT,0,none⟩) (2*C.length+1) cT)).heap[w.heap.size+3]?=some (.cells #[.slice none 0 0,.int .i64 0,.slice none 0 0,.slice none 0 0] 61 (0,0))/\(st4 w1 (w.heap.size+2) (.slice a C.length cap) (.int .i64 l1) (.slice (some ⟨gF,0,none⟩) (2*C.length+1) cF) (.slice (some ⟨gT,0,none⟩) (2*C.length+1) cT)).ownsRow (w.heap.size+4) 120 2 (.slice (some ⟨gF,0,none⟩) (2*C.length+1) cF) (2*C.length+1) (flat (ends C false C.length 0))/\(st4 w1 (w.heap.size+2) (.slice a C.length cap) (.int .i64 l1) (.slice (some ⟨gF,0,none⟩) (2*C.length+1) cF) (.slice (some ⟨gT,0,none⟩) (2*C.length+1) cT)).ownsRow (w.heap.size+4) 120 2 (.slice (some ⟨gT,0,none⟩) (2*C.length+1) cT) (2*C.length+1) (flat (ends C true C.length 0))/\Below w.heap.size w (st4 w1 (w.heap.size+2) (.slice a C.length cap) (.int .i64 l1) (.slice (some ⟨gF,0,none⟩) (2*C.length+1) cF) (.slice (some ⟨gT,0,none⟩) (2*C.length+1) cT))/\w1.heap.size<=(st4 w1 (w.heap.size+2) (.slice a C.length cap) (.int .i64 l1) (.slice (some ⟨gF,0,none⟩) (2*C.length+1) cF) (.slice (some ⟨gT,0,none⟩) (2*C.length+1) cT)).heap.size):=⟨QV0 h2b,(HG1.out.block _ (by omega) (fun e=>by have:=Option.some.inj e;omega)).trans h1b,(HG1.out.block _ (by omega) (fun e=>by have:=Option.some.inj e;omega)).trans h3b,HF1.out.1.kept HG1.out (Or.inr (fun e=>by have:=(HF1.out.1.lt _ e).1;omega)),HF1.out.2.kept HG1.out (Or.inr (fun e=>by have:=(HF1.out.2.lt _ e).1;omega)),HB1.out.grown HG1.out HB1.out.size (fun q hq=>by have:=Option.some.inj hq;omega),HG1.out.size⟩
 clear hb1 hd hdr hF hT h1b h2b h3b HS0 HF1 HG1 HB1
 go_upto_region 3 with(fail)
 have hst:(((w1.setCell ⟨w.heap.size+2,0,none⟩ (.slice a C.length cap)).setCell ⟨w.heap.size+2,1,none⟩ (.int .i64 l1)).setCell ⟨w.heap.size+2,2,none⟩ (.slice (some ⟨gF,0,none⟩) (2*C.length+1) cF)).setCell ⟨w.heap.size+2,3,none⟩ (.slice (some ⟨gT,0,none⟩) (2*C.length+1) cT)=st4 w1 (w.heap.size+2) (.slice a C.length cap) (.int .i64 l1) (.slice (some ⟨gF,0,none⟩) (2*C.length+1) cF) (.slice (some ⟨gT,0,none⟩) (2*C.length+1) cT):=rfl
 rw[hst]
 clear hst r0 r1 r2 r3 f0 f1 f2 f3
 generalize st4 w1 (w.heap.size+2) (.slice a C.length cap) (.int .i64 l1) (.slice (some ⟨gF,0,none⟩) (2*C.length+1) cF) (.slice (some ⟨gT,0,none⟩) (2*C.length+1) cT)=X1 at HX1 ⊢
 obtain⟨y1,y2,y3,y4,y5,y6,y7⟩:=HX1.out
 have HC1:=hidB (HD.out.up y6)
 have u0:=QQ0 (i:=0) y2 rfl
 have u1:=QQ0 (i:=1) y2 rfl
 have lu:w.heap.size+1<X1.heap.size:=(Array.getElem?_eq_some_iff.1 y2).1
 have l3:w.heap.size+3<X1.heap.size:=(Array.getElem?_eq_some_iff.1 y3).1
 clear y1 y2 y3 y4 y5 y6 y7
 go_wp2_with (go_at_call 50;refine(of_any _ D l2 _ HC1.out).mono ?_;rw[HM'.out];rintro e9 w2 ⟨d,rfl,hb2,hd⟩;obtain⟨gF',cF',gT',cT',rfl,hdr,hF,hT⟩:=hd.drB HM'.out hb2 HC1.out;refine Hid.out ?_)
 refine Lib.hid ?_
 unfold drV
 obtain⟨y1,y2,y3,y4,y5,y6,y7⟩:=HX1.out
 have hs2:=hb2.size
 have hg2:X1.grownBy w2 none:=QQ5 hb2 none
 have h2b:=(hb2.block (w.heap.size+2) (by omega)).trans y1
 have h3b:=(hb2.block (w.heap.size+3) (by omega)).trans y3
 have r0:=QQ0 (i:=0) h3b rfl
 have r1:=QQ0 (i:=1) h3b rfl
 have r2:=QQ0 (i:=2) h3b rfl
 have r3:=QQ0 (i:=3) h3b rfl
 have f0:=QQ2 (i:=0) h3b
 have f1:=QQ2 (i:=1) h3b
 have f2:=QQ2 (i:=2) h3b
 have f3:=QQ2 (i:=3) h3b
 have l4:w.heap.size+3<w2.heap.size:=by omega
 have HF2:Hid (w2.ownsRow (w.heap.size+4) 120 2 (.slice (some ⟨gF,0,none⟩) (2*C.length+1) cF) (2*C.length+1) (flat (ends C false C.length 0))/\w2.ownsRow (w.heap.size+4) 120 2 (.slice (some ⟨gT,0,none⟩) (2*C.length+1) cT) (2*C.length+1) (flat (ends C true C.length 0))/\w2.ownsRow (w.heap.size+4) 120 2 (.slice (some ⟨gF',0,none⟩) (2*D.length+1) cF') (2*D.length+1) (flat (ends D false D.length 0))/\w2.ownsRow (w.heap.size+4) 120 2 (.slice (some ⟨gT',0,none⟩) (2*D.length+1) cT') (2*D.length+1) (flat (ends D true D.length 0))):=⟨QX0 y4 hg2,QX0 y5 hg2,QX4 hF (by omega),QX4 hT (by omega)⟩
 have HG2 : Hid (w2.grownBy (st4 w2 (w.heap.size + 3) (.slice a' D.length cap') (.int .i64 l2) (.slice (some ⟨gF', 0, none⟩) (2 * D.length + 1) cF') (.slice (some ⟨gT', 0, none⟩) (2 * D.length + 1) cT')) (some (w.heap.size + 3))) := QJ5 _ _ _ _ _ _
 have HX2:Hid (((st4 w2 (w.heap.size+3) (.slice a' D.length cap') (.int .i64 l2) (.slice (some ⟨gF',0,none⟩) (2*D.length+1) cF') (.slice (some ⟨gT',0,none⟩) (2*D.length+1) cT')).heap[w.heap.size+2]?=some (.cells #[.slice a C.length cap,.int .i64 l1,.slice (some ⟨gF,0,none⟩) (2*C.length+1) cF,.slice (some ⟨gT,0,none⟩) (2*C.length+1) cT] 61 (0,0))/\(st4 w2 (w.heap.size+3) (.slice a' D.length cap') (.int .i64 l2) (.slice (some ⟨gF',0,none⟩) (2*D.length+1) cF') (.slice (some ⟨gT',0,none⟩) (2*D.length+1) cT')).heap[w.heap.size+3]?=some (.cells #[.slice a' D.length cap',.int .i64 l2,.slice (some ⟨gF',0,none⟩) (2*D.length+1) cF',.slice (some ⟨gT',0,none⟩) (2*D.length+1) cT'] 61 (0,0)))/\((st4 w2 (w.heap.size+3) (.slice a' D.length cap') (.int .i64 l2) (.slice (some ⟨gF',0,none⟩) (2*D.length+1) cF') (.slice (some ⟨gT',0,none⟩) (2*D.length+1) cT')).ownsRow (w.heap.size+4) 120 2 (.slice (some ⟨gF,0,none⟩) (2*C.length+1) cF) (2*C.length+1) (flat (ends C false C.length 0))/\(st4 w2 (w.heap.size+3) (.slice a' D.length cap') (.int .i64 l2) (.slice (some ⟨gF',0,none⟩) (2*D.length+1) cF') (.slice (some ⟨gT',0,none⟩) (2*D.length+1) cT')).ownsRow (w.heap.size+4) 120 2 (.slice (some ⟨gT,0,none⟩) (2*C.length+1) cT) (2*C.length+1) (flat (ends C true C.length 0))/\(st4 w2 (w.heap.size+3) (.slice a' D.length cap') (.int .i64 l2) (.slice (some ⟨gF',0,none⟩) (2*D.length+1) cF') (.slice (some ⟨gT',0,none⟩) (2*D.length+1) cT')).ownsRow (w.heap.size+4) 120 2 (.slice (some ⟨gF',0,none⟩) (2*D.length+1) cF') (2*D.length+1) (flat (ends D false D.length 0))/\(st4 w2 (w.heap.size+3) (.slice a' D.length cap') (.int .i64 l2) (.slice (some ⟨gF',0,none⟩) (2*D.length+1) cF') (.slice (some ⟨gT',0,none⟩) (2*D.length+1) cT')).ownsRow (w.heap.size+4) 120 2 (.slice (some ⟨gT',0,none⟩) (2*D.length+1) cT') (2*D.length+1) (flat (ends D true D.length 0)))/\Below w.heap.size w (st4 w2 (w.heap.size+3) (.slice a' D.length cap') (.int .i64 l2) (.slice (some ⟨gF',0,none⟩) (2*D.length+1) cF') (.slice (some ⟨gT',0,none⟩) (2*D.length+1) cT'))):=⟨⟨(HG2.out.block _ (by omega) (fun e=>by have:=Option.some.inj e;omega)).trans h2b,QV0 h3b⟩,⟨HF2.out.1.kept HG2.out (Or.inr (fun e=>by have:=(HF2.out.1.lt _ e).1;omega)),HF2.out.2.1.kept HG2.out (Or.inr (fun e=>by have:=(HF2.out.2.1.lt _ e).1;omega)),HF2.out.2.2.1.kept HG2.out (Or.inr (fun e=>by have:=(HF2.out.2.2.1.lt _ e).1;omega)),HF2.out.2.2.2.kept HG2.out (Or.inr (fun e=>by have:=(HF2.out.2.2.2.lt _ e).1;omega))⟩,(y6.trans (hb2.mono y6.size)).grown HG2.out (by omega) (fun q hq=>by have:=Option.some.inj hq;omega)⟩
 clear hb2 hd hdr hF hT h2b h3b HF2 HG2 hg2 y1 y2 y3 y4 y5 y6 y7 u0 u1
 go_upto_region 4 with(fail)
 have hst:(((w2.setCell ⟨w.heap.size+3,0,none⟩ (.slice a' D.length cap')).setCell ⟨w.heap.size+3,1,none⟩ (.int .i64 l2)).setCell ⟨w.heap.size+3,2,none⟩ (.slice (some ⟨gF',0,none⟩) (2*D.length+1) cF')).setCell ⟨w.heap.size+3,3,none⟩ (.slice (some ⟨gT',0,none⟩) (2*D.length+1) cT')=st4 w2 (w.heap.size+3) (.slice a' D.length cap') (.int .i64 l2) (.slice (some ⟨gF',0,none⟩) (2*D.length+1) cF') (.slice (some ⟨gT',0,none⟩) (2*D.length+1) cT'):=rfl
 rw[hst]
 clear hst r0 r1 r2 r3 f0 f1 f2 f3
 generalize st4 w2 (w.heap.size+3) (.slice a' D.length cap') (.int .i64 l2) (.slice (some ⟨gF',0,none⟩) (2*D.length+1) cF') (.slice (some ⟨gT',0,none⟩) (2*D.length+1) cT')=X2 at HX2 ⊢
 obtain⟨⟨y1,y2⟩,y3,y4⟩:=HX2.out
 have p0:=QQ0 (i:=0) y1 rfl
 have p1:=QQ0 (i:=1) y1 rfl
 have p2:=QQ0 (i:=2) y1 rfl
 have p3:=QQ0 (i:=3) y1 rfl
 have q0:=QQ0 (i:=0) y2 rfl
 have q1:=QQ0 (i:=1) y2 rfl
 have q2:=QQ0 (i:=2) y2 rfl
 have q3:=QQ0 (i:=3) y2 rfl
 have f0:=QQ2 (i:=0) y1
 have f1:=QQ2 (i:=1) y1
 have f2:=QQ2 (i:=2) y1
 have f3:=QQ2 (i:=3) y1
 have k0:=QQ2 (i:=0) y2
 have k1:=QQ2 (i:=1) y2
 have k2:=QQ2 (i:=2) y2
 have k3:=QQ2 (i:=3) y2
 have l5:w.heap.size+2<X2.heap.size:=(Array.getElem?_eq_some_iff.1 y1).1
 have l6:w.heap.size+3<X2.heap.size:=(Array.getElem?_eq_some_iff.1 y2).1
 clear y1 y2 y3 y4
 go_region
 have hst:((((((((X2).setCell ⟨w.heap.size+2,0,none⟩ (.slice a C.length cap)).setCell ⟨w.heap.size+2,1,none⟩ (.int .i64 l1)).setCell ⟨w.heap.size+2,2,none⟩ (.slice (some ⟨gF,0,none⟩) (2*C.length+1) cF)).setCell ⟨w.heap.size+2,3,none⟩ (.slice (some ⟨gT,0,none⟩) (2*C.length+1) cT)).setCell ⟨w.heap.size+3,0,none⟩ (.slice a' D.length cap')).setCell ⟨w.heap.size+3,1,none⟩ (.int .i64 l2)).setCell ⟨w.heap.size+3,2,none⟩ (.slice (some ⟨gF',0,none⟩) (2*D.length+1) cF')).setCell ⟨w.heap.size+3,3,none⟩ (.slice (some ⟨gT',0,none⟩) (2*D.length+1) cT')=st4 (st4 X2 (w.heap.size+2) (.slice a C.length cap) (.int .i64 l1) (.slice (some ⟨gF,0,none⟩) (2*C.length+1) cF) (.slice (some ⟨gT,0,none⟩) (2*C.length+1) cT)) (w.heap.size+3) (.slice a' D.length cap') (.int .i64 l2) (.slice (some ⟨gF',0,none⟩) (2*D.length+1) cF') (.slice (some ⟨gT',0,none⟩) (2*D.length+1) cT'):=rfl
 rw[hst]
 obtain⟨⟨y1,y2⟩,y3,y4⟩:=HX2.out
 have g1:X2.grownBy (st4 X2 (w.heap.size+2) (.slice a C.length cap) (.int .i64 l1) (.slice (some ⟨gF,0,none⟩) (2*C.length+1) cF) (.slice (some ⟨gT,0,none⟩) (2*C.length+1) cT)) (some (w.heap.size+2)):=QJ5 _ _ _ _ _ _
 have g2:(st4 X2 (w.heap.size+2) (.slice a C.length cap) (.int .i64 l1) (.slice (some ⟨gF,0,none⟩) (2*C.length+1) cF) (.slice (some ⟨gT,0,none⟩) (2*C.length+1) cT)).grownBy (st4 (st4 X2 (w.heap.size+2) (.slice a C.length cap) (.int .i64 l1) (.slice (some ⟨gF,0,none⟩) (2*C.length+1) cF) (.slice (some ⟨gT,0,none⟩) (2*C.length+1) cT)) (w.heap.size+3) (.slice a' D.length cap') (.int .i64 l2) (.slice (some ⟨gF',0,none⟩) (2*D.length+1) cF') (.slice (some ⟨gT',0,none⟩) (2*D.length+1) cT')) (some (w.heap.size+3)):=QJ5 _ _ _ _ _ _
 have z1:(st4 (st4 X2 (w.heap.size+2) (.slice a C.length cap) (.int .i64 l1) (.slice (some ⟨gF,0,none⟩) (2*C.length+1) cF) (.slice (some ⟨gT,0,none⟩) (2*C.length+1) cT)) (w.heap.size+3) (.slice a' D.length cap') (.int .i64 l2) (.slice (some ⟨gF',0,none⟩) (2*D.length+1) cF') (.slice (some ⟨gT',0,none⟩) (2*D.length+1) cT')).heap[w.heap.size+2]?=some (.cells #[.slice a C.length cap,.int .i64 l1,.slice (some ⟨gF,0,none⟩) (2*C.length+1) cF,.slice (some ⟨gT,0,none⟩) (2*C.length+1) cT] 61 (0,0)):=(g2.block _ (by have:=g1.size;omega) (fun e=>by have:=Option.some.inj e;omega)).trans (QV0 y1)
 have z2:(st4 (st4 X2 (w.heap.size+2) (.slice a C.length cap) (.int .i64 l1) (.slice (some ⟨gF,0,none⟩) (2*C.length+1) cF) (.slice (some ⟨gT,0,none⟩) (2*C.length+1) cT)) (w.heap.size+3) (.slice a' D.length cap') (.int .i64 l2) (.slice (some ⟨gF',0,none⟩) (2*D.length+1) cF') (.slice (some ⟨gT',0,none⟩) (2*D.length+1) cT')).heap[w.heap.size+3]?=some (.cells #[.slice a' D.length cap',.int .i64 l2,.slice (some ⟨gF',0,none⟩) (2*D.length+1) cF',.slice (some ⟨gT',0,none⟩) (2*D.length+1) cT'] 61 (0,0)):=QV0 ((g1.block _ l6 (fun e=>by have:=Option.some.inj e;omega)).trans y2)
 have hk:∀ {u:Value} {n:Nat} {xs:List Value},X2.ownsRow (w.heap.size+4) 120 2 u n xs->(st4 (st4 X2 (w.heap.size+2) (.slice a C.length cap) (.int .i64 l1) (.slice (some ⟨gF,0,none⟩) (2*C.length+1) cF) (.slice (some ⟨gT,0,none⟩) (2*C.length+1) cT)) (w.heap.size+3) (.slice a' D.length cap') (.int .i64 l2) (.slice (some ⟨gF',0,none⟩) (2*D.length+1) cF') (.slice (some ⟨gT',0,none⟩) (2*D.length+1) cT')).ownsRow (w.heap.size+4) 120 2 u n xs:=fun ho=>(ho.kept g1 (Or.inr (fun e=>by have:=(ho.lt _ e).1;omega))).kept g2 (Or.inr (fun e=>by have:=(ho.lt _ e).1;omega))
 have hbl:Below w.heap.size w (st4 (st4 X2 (w.heap.size+2) (.slice a C.length cap) (.int .i64 l1) (.slice (some ⟨gF,0,none⟩) (2*C.length+1) cF) (.slice (some ⟨gT,0,none⟩) (2*C.length+1) cT)) (w.heap.size+3) (.slice a' D.length cap') (.int .i64 l2) (.slice (some ⟨gF',0,none⟩) (2*D.length+1) cF') (.slice (some ⟨gT',0,none⟩) (2*D.length+1) cT')):=(y4.grown g1 y4.size (fun q hq=>by have:=Option.some.inj hq;omega)).grown g2 (Nat.le_trans y4.size g1.size) (fun q hq=>by have:=Option.some.inj hq;omega)
 have HFN:Hid (((st4 (st4 X2 (w.heap.size+2) (.slice a C.length cap) (.int .i64 l1) (.slice (some ⟨gF,0,none⟩) (2*C.length+1) cF) (.slice (some ⟨gT,0,none⟩) (2*C.length+1) cT)) (w.heap.size+3) (.slice a' D.length cap') (.int .i64 l2) (.slice (some ⟨gF',0,none⟩) (2*D.length+1) cF') (.slice (some ⟨gT',0,none⟩) (2*D.length+1) cT')).ownsRow (w.heap.size+4) 120 2 (.slice (some ⟨gF,0,none⟩) (2*C.length+1) cF) (2*C.length+1) (flat (ends C false C.length 0))/\(st4 (st4 X2 (w.heap.size+2) (.slice a C.length cap) (.int .i64 l1) (.slice (some ⟨gF,0,none⟩) (2*C.length+1) cF) (.slice (some ⟨gT,0,none⟩) (2*C.length+1) cT)) (w.heap.size+3) (.slice a' D.length cap') (.int .i64 l2) (.slice (some ⟨gF',0,none⟩) (2*D.length+1) cF') (.slice (some ⟨gT',0,none⟩) (2*D.length+1) cT')).ownsRow (w.heap.size+4) 120 2 (.slice (some ⟨gT,0,none⟩) (2*C.length+1) cT) (2*C.length+1) (flat (ends C true C.length 0))/\(st4 (st4 X2 (w.heap.size+2) (.slice a C.length cap) (.int .i64 l1) (.slice (some ⟨gF,0,none⟩) (2*C.length+1) cF) (.slice (some ⟨gT,0,none⟩) (2*C.length+1) cT)) (w.heap.size+3) (.slice a' D.length cap') (.int .i64 l2) (.slice (some ⟨gF',0,none⟩) (2*D.length+1) cF') (.slice (some ⟨gT',0,none⟩) (2*D.length+1) cT')).ownsRow (w.heap.size+4) 120 2 (.slice (some ⟨gF',0,none⟩) (2*D.length+1) cF') (2*D.length+1) (flat (ends D false D.length 0))/\(st4 (st4 X2 (w.heap.size+2) (.slice a C.length cap) (.int .i64 l1) (.slice (some ⟨gF,0,none⟩) (2*C.length+1) cF) (.slice (some ⟨gT,0,none⟩) (2*C.length+1) cT)) (w.heap.size+3) (.slice a' D.length cap') (.int .i64 l2) (.slice (some ⟨gF',0,none⟩) (2*D.length+1) cF') (.slice (some ⟨gT',0,none⟩) (2*D.length+1) cT')).ownsRow (w.heap.size+4) 120 2 (.slice (some ⟨gT',0,none⟩) (2*D.length+1) cT') (2*D.length+1) (flat (ends D true D.length 0)))/\Below w.heap.size w (st4 (st4 X2 (w.heap.size+2) (.slice a C.length cap) (.int .i64 l1) (.slice (some ⟨gF,0,none⟩) (2*C.length+1) cF) (.slice (some ⟨gT,0,none⟩) (2*C.length+1) cT)) (w.heap.size+3) (.slice a' D.length cap') (.int .i64 l2) (.slice (some ⟨gF',0,none⟩) (2*D.length+1) cF') (.slice (some ⟨gT',0,none⟩) (2*D.length+1) cT'))):=⟨⟨hk y3.1,hk y3.2.1,hk y3.2.2.1,hk y3.2.2.2⟩,hbl⟩
 clear hst g1 g2 hk hbl y1 y2 y3 y4 p0 p1 p2 p3 q0 q1 q2 q3 f0 f1 f2 f3 k0 k1 k2 k3
 generalize st4 (st4 X2 (w.heap.size+2) (.slice a C.length cap) (.int .i64 l1) (.slice (some ⟨gF,0,none⟩) (2*C.length+1) cF) (.slice (some ⟨gT,0,none⟩) (2*C.length+1) cT)) (w.heap.size+3) (.slice a' D.length cap') (.int .i64 l2) (.slice (some ⟨gF',0,none⟩) (2*D.length+1) cF') (.slice (some ⟨gT',0,none⟩) (2*D.length+1) cT')=Y at z1 z2 HFN ⊢
 have x0:=QQ0 (i:=0) (drew_blk z1) rfl
 have x1:=QQ0 (i:=1) (drew_blk z1) rfl
 have x2:=QQ0 (i:=2) (drew_blk z1) rfl
 have x3:=QQ0 (i:=3) (drew_blk z1) rfl
 have x4:=QQ0 (i:=0) (drew_blk z2) rfl
 have x5:=QQ0 (i:=1) (drew_blk z2) rfl
 have x6:=QQ0 (i:=2) (drew_blk z2) rfl
 have x7:=QQ0 (i:=3) (drew_blk z2) rfl
 go_wp2
 have hbY:=HFN.out.2.drew
 have hgY:Y.grownBy Y.drew none:=QQ5 ((Below.refl _ _).drew) none
 have o1:=QX0 HFN.out.1.1 hgY
 have o2:=QX0 HFN.out.1.2.1 hgY
 have o3:=QX0 HFN.out.1.2.2.1 hgY
 have o4:=QX0 HFN.out.1.2.2.2 hgY
 exact bodyPost_ret (v:=.tuple #[.agg #[.slice a C.length cap,.int .i64 l1,.slice (some ⟨gF,0,none⟩) (2*C.length+1) cF,.slice (some ⟨gT,0,none⟩) (2*C.length+1) cT],.agg #[.slice a' D.length cap',.int .i64 l2,.slice (some ⟨gF',0,none⟩) (2*D.length+1) cF',.slice (some ⟨gT',0,none⟩) (2*D.length+1) cT'],.bool true]) (by simp[results,Try.results79,go_sem,x0,x1,x2,x3,x4,x5,x6,x7]) rfl ⟨a,cap,gF,cF,gT,cT,a',cap',gF',cF',gT',cT',rfl,⟨HC.out.up hbY,(o1.lt gF rfl).2,(o2.lt gT rfl).2,QV4 o1 (QX9 _ _ _ _),QV4 o2 (QX9 _ _ _ _)⟩,⟨HD.out.up hbY,(o3.lt gF' rfl).2,(o4.lt gT' rfl).2,QV4 o3 (QX9 _ _ _ _),QV4 o4 (QX9 _ _ _ _)⟩,hbY⟩
end Go.Proofs.Ytagaajlbkfkaiaa
/- The walks of canon.Canon and canon.Same. -/
namespace Go.Proofs.Ytagaajlbkfkaiaa
open Go.RowKit
set_option maxHeartbeats 8000000
set_option maxRecDepth 100000
def IsForm (C K:List Cr):Prop:=∃ (n:Nat) (P:List Int) (σ:List Nat),PcsAll C P n/\σ.Perm (List.range n)/\QU7 (fun p=>leT C P p C.length) σ/\K=canGo C [] ((σ.map fun p=>(leT C P p C.length).1).flatten)
def IsFormR (C K:List Cr):Prop:=∃ V τ:List Nat,Least (arcE C) C.length V/\τ.Perm (List.range (hdTo V C.length).length)/\QU7 (fun i=>leT C (wI V) ((hdTo V C.length).getD i 0) C.length) τ/\K=canGo C [] ((τ.map fun i=>(leT C (wI V) ((hdTo V C.length).getD i 0) C.length).1).flatten)
theorem form_one {C K K':List Cr} {loops:Int} (hm:mayD C loops=true) (h:IsForm C K) (h':IsFormR C K'):K=K':=by
 obtain⟨n,P,σ,a1,a2,a3,rfl⟩:=h
 obtain⟨V,τ,b1,b2,b3,rfl⟩:=h'
 exact forms_one hm a1 a2 a3 b1 b2 b3
theorem flat_few {C:List Cr} {loops:Int} (hm:mayD C loops=true) (P:List Int) (f:Nat->Nat) (l:List Nat):((l.map fun p=>(leT C P (f p) C.length).1).flatten).length<=16*l.length:=by
 induction l with
 |nil=>simp
 |cons x l ih=>
  have:=(leT_few hm P (f x) C.length (Nat.le_refl _)).1
  simp only[List.map_cons,List.flatten_cons,List.length_append,List.length_cons]
  omega
theorem form_len {C K:List Cr} {loops:Int} (hm:mayD C loops=true) (h:IsForm C K):K.length<=256:=by
 obtain⟨n,P,σ,a1,a2,a3,rfl⟩:=h
 obtain⟨s1,-,-,-⟩:=QZ2 (QK3 hm)
 have h1:=flat_few hm P (fun p=>p) σ
 have h2:σ.length=n:=by have:=a2.length_eq;simpa using this
 have h3:=a1.few
 rw[canGo_len]
 omega
theorem canonical_is (a:Option Addr) (cap:Nat) (C:List Cr) (loops:Int) (gF cF gT cT:Nat) (w:World) (hm:mayD C loops=true) (hD:Dr w a cap C gF gT):
    Calls Try.prog 73 #[drV a cap C loops gF cF gT cT] w fun e w'=>∃ v K,e=.returned (.agg #[v,.int .i64 loops])/\IsForm C K/\K.length<=256/\w'.ownsRow w.heap.size 71 5 v K.length (QQ4 K)/\Below w.heap.size w w':=by
 refine(canonical_any a cap C loops gF cF gT cT w hm hD).mono fun e w' h=>?_
 obtain⟨v,n,P,σ,he,h1,h2,h3,h4,h5⟩:=h
 have hf:IsForm C _:=⟨n,P,σ,h1,h2,h3,rfl⟩
 exact⟨v,_,he,hf,form_len hm hf,h4,h5⟩
theorem canon_yes (v:Value) (C:List Cr) (loops:Int) (w:World) (hm:mayD C loops=true) (h:Crs w w.heap.size v C):
    Calls Try.prog 48 #[.agg #[v, .int .i64 loops]] w fun e w' => ∃ r K, e = .returned (.tuple #[.agg #[r, .int .i64 loops], .int .i64 0]) ∧ IsForm C K ∧ Crs w' w'.heap.size r K ∧ Below w.heap.size w w' := by
 obtain⟨s1,-,-,-⟩:=QZ2 (QK3 hm)
 have HC:=hidB h
 have HM:=hidB hm
 obtain⟨a,cap,rfl,hn,-⟩:=h
 have HB1 : Hid (Below w.heap.size w ((w.alloc (.cells #[.slice a C.length cap, .int .i64 loops] 24)).alloc (.cells #[.slice none 0 0, .int .i64 0] 24))) := QJ3 _ _ _
 have HT1 : Hid (((w.alloc (.cells #[.slice a C.length cap, .int .i64 loops] 24)).alloc (.cells #[.slice none 0 0, .int .i64 0] 24)).heap[w.heap.size + 1]? = some (.cells #[.slice none 0 0, .int .i64 0] 24 (0, 0))) := alloc_at (by simp)
 go_enter Try.func48,Try.ntmps48
 go_wp2_with (go_at_call 50;refine(of_any _ C loops _ (HC.out.up HB1.out)).mono ?_;rw[hm];rintro e9 w2 ⟨d,rfl,hb2,hd⟩;obtain⟨gF,cF,gT,cT,rfl,hdr⟩:=hd.dr HM.out hb2 (HC.out.up HB1.out);refine Hid.out ?_)
 refine Lib.hid ?_
 have HDR:=hidB hdr
 unfold drV
 have HB2:=hidB (HB1.out.trans (hb2.mono HB1.out.size))
 have HT2:=hidB ((hb2.block _ (by simp)).trans HT1.out)
 have hs2:w.heap.size+2<=w2.heap.size:=by have:=hb2.size;simpa using this
 have HBA : Hid (Below w2.heap.size w2 (w2.alloc (.cells #[.slice a C.length cap, .int .i64 loops, .slice (some ⟨gF, 0, none⟩) (2 * C.length + 1) cF, .slice (some ⟨gT, 0, none⟩) (2 * C.length + 1) cT] 61))) := (Below.refl _ _).alloc (Nat.le_refl _) _
 clear hb2 hd hdr hm
 go_wp2_with (go_at_call 73;refine(canonical_is a cap C loops gF cF gT cT _ HM.out (HDR.out.on HBA.out)).mono ?_;rintro e9 w3 ⟨r,K,rfl,hK,hKl,hr,hb3⟩;refine Hid.out ?_)
 refine Lib.hid ?_
 have HR:Hid (w3.ownsRow (w.heap.size+2) 71 5 r K.length (QQ4 K)):=QX4 hr (by simp;omega)
 have HKF:=hidB hK
 have HB3:Hid (Below w.heap.size w w3):=(HB2.out.trans (HBA.out.mono HB2.out.size)).trans (hb3.mono (by simp;omega))
 have HT3:Hid (w3.heap[w.heap.size+1]?=some (.cells #[.slice none 0 0,.int .i64 0] 24 (0,0))):=(hb3.block _ (by simp;omega)).trans (alloc_old HT2.out)
 have hs3:w.heap.size+2<=w3.heap.size:=by have:=hb3.size;simp at this;omega
 clear hr hb3 hK
 obtain⟨a3,c3',ev3⟩:=QX5 HR.out
 subst ev3
 have r0:=QQ0 (i:=0) HT3.out rfl
 have r1:=QQ0 (i:=1) HT3.out rfl
 have f0:=QQ2 (i:=0) HT3.out
 have f1:=QQ2 (i:=1) HT3.out
 have hl:w.heap.size+1<w3.heap.size:=by omega
 go_wp2
 have hX:=QQ6 (i:=1) (u:=.int .i64 loops) (QQ6 (i:=0) (u:=.slice a3 K.length c3') HT3.out)
 have x0:=QQ0 (i:=0) (v:=.slice a3 K.length c3') hX rfl
 have x1:=QQ0 (i:=1) (v:=.int .i64 loops) hX rfl
 have hk:=HR.out.kept (QZ5 w3 (w.heap.size+1) 0 (.slice a3 K.length c3') (.int .i64 loops)) (by
  cases hv:(Value.slice a3 K.length c3').ownBlock with
  |none=>exact Or.inl rfl
  |some k=>exact Or.inr (fun e=>by have h1:=(HR.out.lt k hv).1;have h2:=Option.some.inj e;omega))
 exact bodyPost_ret (v:=.tuple #[.agg #[.slice a3 K.length c3',.int .i64 loops],.int .i64 0]) (by simp[results,Try.results48,go_sem,x0,x1]) rfl ⟨_,K,rfl,HKF.out,crs_own hk (by unfold maxLen;omega),HB3.out.grown (QZ5 w3 (w.heap.size+1) 0 (.slice a3 K.length c3') (.int .i64 loops)) (by omega) (fun q hq=>by have:=Option.some.inj hq;omega)⟩
def SameOut (C D:List Cr) (l1 l2:Int) (e:Ending):Prop:=∃ b,e=.returned (.tuple #[.bool b,.int .i64 0])/\(l1≠l2->b=false)/\(l1=l2->∃ K1 K2,IsForm C K1/\IsForm D K2/\b=sameD 0 0 K1 K2)
theorem field_diag (r:Value) (l:Int) (w:World):(Instr.field 24 (.agg #[r,.int .i64 l]) 0).run Try.prog w=.ok r w:=by
 simp[Instr.field,run_underlying Try.underlying24,go_sem,asAgg]
theorem same_yes (v1 v2:Value) (C D:List Cr) (l1 l2:Int) (w:World) (hm:mayD C l1=true) (hm':mayD D l2=true) (h1:Crs w w.heap.size v1 C) (h2:Crs w w.heap.size v2 D):
    Calls Try.prog 52 #[.agg #[v1, .int .i64 l1], .agg #[v2, .int .i64 l2]] w fun e w' => SameOut C D l1 l2 e ∧ Below w.heap.size w w' := by
 have HM:=hidB hm
 have HM':Hid (mayD D l2=true):=hm'
 have HC:=hidB h1
 have HD:=hidB h2
 obtain⟨a0,cap0,rfl,-,-⟩:=h1
 obtain⟨a0',cap0',rfl,-,-⟩:=h2
 have HB0 : Hid (Below w.heap.size w ((w.alloc (.cells #[.slice a0 C.length cap0, .int .i64 l1] 24)).alloc (.cells #[.slice a0' D.length cap0', .int .i64 l2] 24))) := QJ3 _ _ _
 clear hm hm'
 go_enter Try.func52,Try.ntmps52
 go_upto_region 2 with(go_at_call 79;refine(both_draw _ _ C D l1 l2 _ HM.out HM'.out (HC.out.up HB0.out) (HD.out.up HB0.out)).mono ?_;rintro e9 w1 ⟨a,cap,gF,cF,gT,cT,a',cap',gF',cF',gT',cT',rfl,hd1,hd2,hb1⟩;unfold drV)
 have HD1:=hidB hd1
 have HD2:=hidB hd2
 have HB1:=hidB (HB0.out.trans (hb1.mono HB0.out.size))
 clear hd1 hd2 hb1 HB0
 obtain⟨X,hX⟩:∃ X,X=(w1.alloc (.cells #[.slice a C.length cap,.int .i64 l1,.slice (some ⟨gF,0,none⟩) (2*C.length+1) cF,.slice (some ⟨gT,0,none⟩) (2*C.length+1) cT] 61)).alloc (.cells #[.slice a' D.length cap',.int .i64 l2,.slice (some ⟨gF',0,none⟩) (2*D.length+1) cF',.slice (some ⟨gT',0,none⟩) (2*D.length+1) cT'] 61):=⟨_,rfl⟩
 rw[<-hX]
 have hsX:X.heap.size=w1.heap.size+2:=by rw[hX];simp
 have HBX:=hidB (show Below w1.heap.size w1 X by rw[hX];exact QJ3 _ _ _)
 have HX0:=hidB (show X.heap[w1.heap.size]?=some (.cells #[.slice a C.length cap,.int .i64 l1,.slice (some ⟨gF,0,none⟩) (2*C.length+1) cF,.slice (some ⟨gT,0,none⟩) (2*C.length+1) cT] 61 (0,0)) by rw[hX];exact alloc_old (alloc_at rfl))
 have HX1:=hidB (show X.heap[w1.heap.size+1]?=some (.cells #[.slice a' D.length cap',.int .i64 l2,.slice (some ⟨gF',0,none⟩) (2*D.length+1) cF',.slice (some ⟨gT',0,none⟩) (2*D.length+1) cT'] 61 (0,0)) by rw[hX];exact alloc_at (by simp))
 have hlX0:w1.heap.size<X.heap.size:=by omega
 have hlX1:w1.heap.size+1<X.heap.size:=by omega
 clear hX hsX
 have HF:Hid (∀ w',Below X.heap.size X w'->w'.cell? ⟨w1.heap.size,0,none⟩=some (.slice a C.length cap)/\w'.cell? ⟨w1.heap.size,1,none⟩=some (.int .i64 l1)/\w'.cell? ⟨w1.heap.size,2,none⟩=some (.slice (some ⟨gF,0,none⟩) (2*C.length+1) cF)/\w'.cell? ⟨w1.heap.size,3,none⟩=some (.slice (some ⟨gT,0,none⟩) (2*C.length+1) cT)/\w'.cell? ⟨w1.heap.size+1,0,none⟩=some (.slice a' D.length cap')/\w'.cell? ⟨w1.heap.size+1,1,none⟩=some (.int .i64 l2)/\w'.cell? ⟨w1.heap.size+1,2,none⟩=some (.slice (some ⟨gF',0,none⟩) (2*D.length+1) cF')/\w'.cell? ⟨w1.heap.size+1,3,none⟩=some (.slice (some ⟨gT',0,none⟩) (2*D.length+1) cT')):=fun w' hb=>by
  have g0:=(hb.block _ hlX0).trans HX0.out
  have g1:=(hb.block _ hlX1).trans HX1.out
  exact⟨QQ0 g0 rfl,QQ0 g0 rfl,QQ0 g0 rfl,QQ0 g0 rfl,QQ0 g1 rfl,QQ0 g1 rfl,QQ0 g1 rfl,QQ0 g1 rfl⟩
 have HBW:=hidB (HB1.out.trans (HBX.out.mono HB1.out.size))
 have HDX : Hid (Below X.heap.size X X.drew) := (Below.refl _ _).drew
 obtain⟨p0,p1,p2,p3,p4,p5,p6,p7⟩:=HF.out X (Below.refl _ _)
 by_cases hll:l1=l2
 · subst hll
   have hd:(l1==l1)=true:=by simp
   have hfs:=field_diag
   have HN1:Hid (∀ W,Below X.heap.size X W->Dr W a cap C gF gT/\Dr W a' cap' D gF' gT'):=fun W hW=>⟨HD1.out.on (HBX.out.trans (hW.mono (by omega))),HD2.out.on (HBX.out.trans (hW.mono (by omega)))⟩
   have HCN1:Hid (∀ W,Below X.heap.size X W->Calls Try.prog 73 #[.agg #[.slice a C.length cap,.int .i64 l1,.slice (some ⟨gF,0,none⟩) (2*C.length+1) cF,.slice (some ⟨gT,0,none⟩) (2*C.length+1) cT]] W fun e w'=>∃ v K,e=.returned (.agg #[v,.int .i64 l1])/\IsForm C K/\K.length<=256/\w'.ownsRow W.heap.size 71 5 v K.length (QQ4 K)/\Below W.heap.size W w'):=fun W hW=>canonical_is a cap C l1 gF cF gT cT W HM.out (HN1.out W hW).1
   have HCN2:Hid (∀ W,Below X.heap.size X W->Calls Try.prog 73 #[.agg #[.slice a' D.length cap',.int .i64 l1,.slice (some ⟨gF',0,none⟩) (2*D.length+1) cF',.slice (some ⟨gT',0,none⟩) (2*D.length+1) cT']] W fun e w'=>∃ v K,e=.returned (.agg #[v,.int .i64 l1])/\IsForm D K/\K.length<=256/\w'.ownsRow W.heap.size 71 5 v K.length (QQ4 K)/\Below W.heap.size W w'):=fun W hW=>canonical_is a' cap' D l1 gF' cF' gT' cT' W HM'.out (HN1.out W hW).2
   go_upto_region 4 with(fail)
   go_region_held3 (fun w' => w'.cell? ⟨w1.heap.size, 0, none⟩ = some (.slice a C.length cap) ∧ w'.cell? ⟨w1.heap.size, 1, none⟩ = some (.int .i64 l1) ∧ w'.cell? ⟨w1.heap.size, 2, none⟩ = some (.slice (some ⟨gF, 0, none⟩) (2 * C.length + 1) cF) ∧ w'.cell? ⟨w1.heap.size, 3, none⟩ = some (.slice (some ⟨gT, 0, none⟩) (2 * C.length + 1) cT) ∧ w'.cell? ⟨w1.heap.size + 1, 0, none⟩ = some (.slice a' D.length cap') ∧ w'.cell? ⟨w1.heap.size + 1, 1, none⟩ = some (.int .i64 l1) ∧ w'.cell? ⟨w1.heap.size + 1, 2, none⟩ = some (.slice (some ⟨gF', 0, none⟩) (2 * D.length + 1) cF') ∧ w'.cell? ⟨w1.heap.size + 1, 3, none⟩ = some (.slice (some ⟨gT', 0, none⟩) (2 * D.length + 1) cT')) (first | exact HF.out _ H5.out | exact HF.out _ H4.out | exact HF.out _ H3.out | exact HF.out _ HDX.out) (first
    | (go_at_call 80; refine (equalCross_any _ _ K1 K2 _ HK1.out HK2.out).mono ?_; rintro e9 w5 ⟨rfl, hb5⟩
       have H5:=hidB (H4.out.trans (hb5.mono H4.out.size))
       clear hb5)
    | (go_at_call 73; have hAA := H3; clear hAA; refine (HCN2.out _ H3.out).mono ?_; rintro e9 w4 ⟨r2, K2, rfl, hK2, hKl2, hr2, hb4⟩
       have H4:=hidB (H3.out.trans (hb4.mono H3.out.size))
       have HF2:=hidB hK2
       obtain⟨ar2,cr2,er2⟩:=QX5 hr2
       subst er2
       have HK2:Hid (Crs w4 w4.heap.size (.slice ar2 K2.length cr2) K2):=crs_own hr2 (by unfold maxLen;omega)
       have HK1:=hidB (HK13.out.up hb4)
       clear hb4 hK2 hr2)
    | (go_at_call 73; refine (HCN1.out _ HDX.out).mono ?_; rintro e9 w3 ⟨r1, K1, rfl, hK1, hKl1, hr1, hb3⟩
       have H3:=hidB (HDX.out.trans (hb3.mono HDX.out.size))
       have HF1:=hidB hK1
       obtain⟨ar1,cr1,er1⟩:=QX5 hr1
       subst er1
       have HK13:Hid (Crs w3 w3.heap.size (.slice ar1 K1.length cr1) K1):=crs_own hr1 (by unfold maxLen;omega)
       clear hb3 hK1 hr1))
   have HBF:=hidB (HBW.out.trans (H5.out.mono HBW.out.size))
   obtain⟨bb,hbb⟩:∃ bb,sameD 0 0 K1 K2=bb:=⟨_,rfl⟩
   have HBB:=hidB hbb
   rw[hbb]
   clear hbb
   go_wp2
   go_ret2
   exact⟨⟨bb,rfl,fun h=>absurd rfl h,fun _=>⟨K1,K2,HF1.out,HF2.out,HBB.out.symm⟩⟩,HBF.out⟩
 · have hd:(l1==l2)=false:=beq_eq_false_iff_ne.2 hll
   go_upto_region 4 with(fail)
   go_quiet (fail)
   go_wp2
   go_ret2
   exact⟨⟨false,rfl,fun _=>rfl,fun h=>absurd h hll⟩,below_drewN HBW.out _⟩
end Go.Proofs.Ytagaajlbkfkaiaa
/- Diagrams that are one but for the numbers of arcs and the order of crossings have one form: mathematics. -/
namespace Go.Proofs.Ytagaajlbkfkaiaa
structure Iso (C D:List Cr) (f g r:Nat->Nat):Prop where
 len:D.length=C.length
 flt:∀ k,k<C.length->f k<C.length
 glt:∀ k,k<C.length->g k<C.length
 gf:∀ k,k<C.length->g (f k)=k
 fg:∀ k,k<C.length->f (g k)=k
 plus:∀ k,k<C.length->(D.getD (f k) Cr.none).plus=(C.getD k Cr.none).plus
 arc:∀ k s,k<C.length->s<4->arcN (D.getD (f k) Cr.none) s=r (arcN (C.getD k Cr.none) s)
 rinj:∀ x y,(1<=x/\x<=2*C.length)->(1<=y/\y<=2*C.length)->r x=r y->x=y
theorem Iso.inj {C D:List Cr} {f g r:Nat->Nat} (I:Iso C D f g r):∀ x y,x<C.length->y<C.length->f x=f y->x=y:=fun x y hx hy e=>by
 have:=I.gf x hx
 rw[e,I.gf y hy]at this
 exact this.symm
theorem nb_comes {C:List Cr} {loops:Int} (hm:mayD C loops=true) (k s:Nat) (hk:k<C.length) (hs:s<4):(C.getD (nbC C k s) Cr.none).comes (nbS C k s)=!(C.getD k Cr.none).comes s:=by
 obtain⟨⟨h1,h2,-⟩,-,-,-⟩:=nb_may hm k s hk hs
 exact(QJ9 hm _ (!(C.getD k Cr.none).comes s) h1 h2).2.2.2.2
theorem Iso.nb {C D:List Cr} {f g r:Nat->Nat} {l1 l2:Int} (I:Iso C D f g r) (hm:mayD C l1=true) (hd:mayD D l2=true) (k s:Nat) (hk:k<C.length) (hs:s<4):nbC D (f k) s=f (nbC C k s)/\nbS D (f k) s=nbS C k s:=by
 obtain⟨-,-,h1,h2⟩:=nb_may hm k s hk hs
 have e:arcN (D.getD (f k) Cr.none) s=arcN (D.getD (f (nbC C k s)) Cr.none) (nbS C k s):=by
  rw[I.arc k s hk hs,I.arc _ _ h1 h2,spot_nb hm hk hs]
 rcases spot_eq hd (by rw[I.len];exact I.flt k hk) hs (by rw[I.len];exact I.flt _ h1) h2 e with⟨a,b⟩|h
 · have a':=I.inj k _ hk h1 a
   have:=nb_comes hm k s hk hs
   rw[<-a',<-b]at this
   cases hc:(C.getD k Cr.none).comes s<;>rw[hc]at this<;>cases this
 · exact h
theorem Iso.con {C D:List Cr} {f g r:Nat->Nat} {l1 l2:Int} (I:Iso C D f g r) (hm:mayD C l1=true) (hd:mayD D l2=true) (u v:Nat) (hu:u<C.length) (hv:v<C.length):Con (arcE C) u v↔Con (arcE D) (f u) (f v):=by
 constructor
 · intro h S hS hfu
   refine h (fun x=>S (f x)) ?_ hfu
   intro e he
   unfold arcE at he
   obtain⟨i,hi,rfl⟩:=List.mem_map.1 he
   have hi':=List.mem_range.1 hi
   obtain⟨-,t1,t2,t3,t4⟩:=QJ9 hm (i+1) true (by omega) (by omega)
   have en:nbC C (enC C (i+1) true) (enS C (i+1) true)=enC C (i+1) false:=by
    unfold nbC
    rw[t3,t4]
    rfl
   have hc:=nb_con hd (f (enC C (i+1) true)) (enS C (i+1) true) (by rw[I.len];exact I.flt _ t1) t2
   rw[(I.nb hm hd _ _ t1 t2).1,en]at hc
   exact⟨fun h=>hc S hS h,fun h=>hc.symm S hS h⟩
 · intro h S hS hSu
   have:=h (fun y=>∃ x,x<C.length/\f x=y/\S x) ?_ ⟨u,hu,rfl,hSu⟩
   · obtain⟨x,hx,e,hSx⟩:=this
     rw[<-I.inj x v hx hv e]
     exact hSx
   · intro e he
     unfold arcE at he
     obtain⟨i,hi,rfl⟩:=List.mem_map.1 he
     have hi':=List.mem_range.1 hi
     obtain⟨-,t1,t2,t3,t4⟩:=QJ9 hd (i+1) true (by omega) (by omega)
     have en:nbC D (enC D (i+1) true) (enS D (i+1) true)=enC D (i+1) false:=by
      unfold nbC
      rw[t3,t4]
      rfl
     simp only
     rw[I.len]at t1
     have hx:=I.glt _ t1
     have ex:=I.fg _ t1
     have hn:=(I.nb hm hd (g (enC D (i+1) true)) _ hx t2).1
     rw[ex,en]at hn
     have hc:=nb_con hm _ _ hx t2
     have hl:=nb_lt hm _ _ hx t2
     constructor
     · rintro⟨x,h1,h2,h3⟩
       have e2:x=g (enC D (i+1) true):=I.inj _ _ h1 hx (by rw[ex,h2])
       rw[e2]at h3
       exact⟨_,hl,hn.symm,hc S hS h3⟩
     · rintro⟨x,h1,h2,h3⟩
       have e2:=I.inj _ _ h1 hl (by rw[h2,hn])
       rw[e2]at h3
       exact⟨_,hx,ex,hc.symm S hS h3⟩
theorem Iso.teS {C D:List Cr} {f g r:Nat->Nat} {l1 l2:Int} (I:Iso C D f g r) (hm:mayD C l1=true) (hd:mayD D l2=true) {c s:Nat} (hc:c<C.length) (hs:s<4) {p:List Nat×List Int} (h:TeOk C p):teS D (f c) (p.1.map f,p.2) s=((Proofs.Ytagaajlbkfkaiaa.teS C c p s).1.map f,(Proofs.Ytagaajlbkfkaiaa.teS C c p s).2):=by
 have hx:=nb_lt hm c s hc hs
 unfold Proofs.Ytagaajlbkfkaiaa.teS
 rw[(I.nb hm hd c s hc hs).1,(I.nb hm hd c s hc hs).2]
 have hmem:=mem_map_inj (A:=(·<C.length)) I.inj h.lt hx
 by_cases hn:nbC C c s∈p.1
 · simp only[hn,hmem.2 hn,if_true]
   rw[idxOf_map (A:=(·<C.length)) I.inj _ _ h.lt hx]
 · have hn':¬f (nbC C c s)∈p.1.map f:=fun e=>hn (hmem.1 e)
   simp only[hn,hn',if_false]
   have e:p.1.map f++[f (nbC C c s)]=(p.1++[nbC C c s]).map f:=by simp
   rw[e,idxOf_map (A:=(·<C.length)) I.inj _ _ (fun y hy=>?_) hx]
   rcases List.mem_append.1 hy with hy|hy
   · exact h.lt y hy
   · rw[List.mem_singleton.1 hy];exact hx
theorem Iso.teK {C D:List Cr} {f g r:Nat->Nat} {l1 l2:Int} (I:Iso C D f g r) (hm:mayD C l1=true) (hd:mayD D l2=true) {i:Nat} {p:List Nat×List Int} (hi:i<p.1.length) (h:TeOk C p):∀ k,k<=4->teK D i (p.1.map f,p.2) k=((Proofs.Ytagaajlbkfkaiaa.teK C i p k).1.map f,(Proofs.Ytagaajlbkfkaiaa.teK C i p k).2):=by
 have hg:(p.1.map f).getD i 0=f (p.1.getD i 0):=by simp[List.getD,hi]
 have hc:p.1.getD i 0<C.length:=h.lt _ (by rw[List.getD_eq_getElem?_getD,List.getElem?_eq_getElem hi];exact List.getElem_mem hi)
 intro k
 induction k with
 |zero=>
  intro _
  unfold Proofs.Ytagaajlbkfkaiaa.teK
  simp only
  rw[hg,I.plus _ hc]
 |succ k ih=>
  intro hk
  rw[Proofs.Ytagaajlbkfkaiaa.teK,Proofs.Ytagaajlbkfkaiaa.teK,ih (by omega)]
  simp only
  rw[hg,I.teS hm hd hc (by omega) (teK_ok hm hi h (by omega))]
theorem Iso.te {C D:List Cr} {f g r:Nat->Nat} {l1 l2:Int} (I:Iso C D f g r) (hm:mayD C l1=true) (hd:mayD D l2=true) {a:Nat} (ha:a<C.length):te D (f a)=((Proofs.Ytagaajlbkfkaiaa.te C a).1.map f,(Proofs.Ytagaajlbkfkaiaa.te C a).2):=by
 have:∀ i,teI D (f a) i=((teI C a i).1.map f,(teI C a i).2):=by
  intro i
  induction i with
  |zero=>rfl
  |succ i ih=>
   rw[teI,teI,ih]
   by_cases hi:i<(teI C a i).1.length
   · simp only[List.length_map,hi,if_true]
     exact I.teK hm hd hi (teI_ok hm ha i) 4 (Nat.le_refl _)
   · simp only[List.length_map,hi,if_false]
 unfold Proofs.Ytagaajlbkfkaiaa.te
 rw[I.len]
 exact this _
theorem Iso.key {C D:List Cr} {f g r:Nat->Nat} {l1 l2:Int} (I:Iso C D f g r) (hm:mayD C l1=true) (hd:mayD D l2=true) {a:Nat} (ha:a<C.length):keyT (Proofs.Ytagaajlbkfkaiaa.te D (f a))=keyT (Proofs.Ytagaajlbkfkaiaa.te C a):=by
 rw[I.te hm hd ha]
 simp[keyT]
end Go.Proofs.Ytagaajlbkfkaiaa
/- Diagrams that are one but for the numbers of arcs and the order of crossings have one form: mathematics. -/
namespace Go.Proofs.Ytagaajlbkfkaiaa
theorem formR_ex {C:List Cr} {loops:Int} (hm:mayD C loops=true):∃ K,IsFormR C K:=by
 obtain⟨V,hV⟩:∃ V,Least (arcE C) C.length V:=⟨_,QZ9 (arcE_lt hm) _ (Nat.le_refl _)⟩
 obtain⟨L,hL⟩:∃ L:Nat->List Nat×List Int,L=fun i=>leT C (wI V) ((hdTo V C.length).getD i 0) C.length:=⟨_,rfl⟩
 have hs:=List.pairwise_mergeSort (le:=fun x y=>decide (¬cmpT (L y) (L x)<0)) (fun a b c h1 h2=>by
     simp only[decide_eq_true_eq]at h1 h2 ⊢
     exact cmpT_ntrans h2 h1) (fun a b=>by
     simp only[Bool.or_eq_true,decide_eq_true_eq]
     by_cases h:cmpT (L b) (L a)<0
     · exact Or.inr (cmpT_asymm h)
     · exact Or.inl h) (List.range (hdTo V C.length).length)
 refine⟨_,V,_,hV,List.mergeSort_perm _ (fun x y=>decide (¬cmpT (L y) (L x)<0)),?_,rfl⟩
 rw[<-hL]
 exact hs.imp fun h=>by simpa using h
theorem form_two {C K K':List Cr} {loops:Int} (hm:mayD C loops=true) (h:IsForm C K) (h':IsForm C K'):K=K':=by
 obtain⟨R,hR⟩:=formR_ex hm
 exact(form_one hm h hR).trans (form_one hm h' hR).symm
theorem Iso.go {C D:List Cr} {f g r:Nat->Nat} {l1:Int} (I:Iso C D f g r) (hm:mayD C l1=true):∀ (o F:List Nat),(∀ z,z∈F->1<=z/\z<=2*C.length)->(∀ k,k∈o->k<C.length)->canGo D (F.map r) (o.map f)=canGo C F o
 |[],_,_,_=>rfl
 |c::o,F,hF,ho=>by
  have hc:=ho c List.mem_cons_self
  have g1:∀ s,s<4->(1<=arcN (C.getD c Cr.none) s/\arcN (C.getD c Cr.none) s<=2*C.length)/\arcN (D.getD (f c) Cr.none) s=r (arcN (C.getD c Cr.none) s):=fun s hs=>by
   obtain⟨⟨a1,a2,-⟩,-,-,-⟩:=nb_may hm c s hc hs
   exact⟨⟨a1,a2⟩,I.arc c s hc hs⟩
  obtain⟨h1,h2⟩:=addN_map (A:=fun z=>1<=z/\z<=2*C.length) I.rinj hF g1 4 (Nat.le_refl _)
  rw[List.map_cons,canGo,canGo,canX_map (A:=fun z=>1<=z/\z<=2*C.length) I.rinj hF g1 (I.plus c hc),h1,I.go hm o _ h2 (fun k hk=>ho k (List.mem_cons_of_mem _ hk))]
end Go.Proofs.Ytagaajlbkfkaiaa
