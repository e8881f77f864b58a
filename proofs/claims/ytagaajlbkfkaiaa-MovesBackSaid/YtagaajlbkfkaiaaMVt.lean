/- Moves: the walk of bench.slide. Made by genmvt.py. -/
import Derived.Test.YtagaajlbkfkaiaaMV6P
import Derived.Test.YtagaajlbkfkaiaaMVs
import Derived.Test.YtagaajlbkfkaiaaMVjP
import Derived.Test.YtagaajlbkfkaiaaMVl
import Derived.Test.YtagaajlbkfkaiaaR3
namespace Go.Proofs.Ytagaajlbkfkaiaa
open Go.RowKit
set_option maxHeartbeats 8000000
set_option maxRecDepth 100000
def triB (C:List Cr) (l:List Nat):Bool:=(!decide (dC C (l.getD 0 0)=dC C (l.getD 1 0))&&!decide (dC C (l.getD 1 0)=dC C (l.getD 2 0)))&&!decide (dC C (l.getD 2 0)=dC C (l.getD 0 0))
theorem triangle_at (a:Option Addr) (cap:Nat) (C:List Cr) (loops:Int) (gF cF gT cT:Nat) (g c:Nat) (l:List Nat) (w:World) (hm:mayD C loops=true) (hd:Dr w a cap C gF gT) (hr:RingAt w g C l) (h3:l.length=3):
    Calls Try.prog 115 #[drV a cap C loops gF cF gT cT,.slice (some ⟨g,0,none⟩) 3 c] w fun e w'=>e=.returned (.bool (triB C l))/\Below w.heap.size w w':=by
 have r0:=hr.2.2 0 (by omega)
 have r1:=hr.2.2 1 (by omega)
 have r2:=hr.2.2 2 (by omega)
 exact triangle_yes a cap C loops gF cF gT cT g c _ _ _ w hm hd hr.1 r0.1 r1.1 r2.1 ⟨r0.2.1,r0.2.2,r1.2.1,r1.2.2,r2.2.1,r2.2.2⟩
theorem slide_no1a (a:Option Addr) (cap:Nat) (C:List Cr) (loops:Int) (gF cF gT cT:Nat) (k x y ua va:Int) (ub vb ov:Bool) (w:World) (hm:mayD C loops=true) (hd:Dr w a cap C gF gT) (hx:x<0):
    Calls Try.prog 92 #[drV a cap C loops gF cF gT cT, mvV k x y ua ub va vb ov] w fun e w' => e = .panicked (QZ7 3) ∧ Below w.heap.size w w' := by
 unfold mvV
 obtain⟨Y,hY,hBY,hTY,hsY⟩:=bm_ex w a cap C loops gF cF gT cT k x y ua va ub vb ov
 have HBY:=QQ1 hBY
 have HCE:=QQ1 (bm_ce hTY)
 clear hBY hTY
 have HFR:Hid (∀ W,Below Y.heap.size Y W->Calls Try.prog 71 #[drV a cap C loops gF cF gT cT] W fun e w'=>∃ av cv,e=.returned (.slice av (QQ3 C).length cv)/\RingsR w' (.slice av (QQ3 C).length cv) C (QQ3 C)/\Below W.heap.size W w'):=fun W hW=>
  (QK1 a cap C loops gF cF gT cT W hm (hd.on (HBY.out.trans (hW.mono (by omega))))).mono fun e w' hh=>by
   obtain⟨v,h1,h2,h3⟩:=hh
   have h4:=QV9 hm h2
   obtain⟨av,cv,rfl,-⟩:=id h4
   exact⟨av,cv,h1,h4,h3⟩
 have hfl:(QQ3 C).length<=64:=by have h1:=(QX6 hm).1;have h2:=QK4 hm;omega
 obtain⟨L,hL⟩:∃ L,QQ3 C=L:=⟨_,rfl⟩
 rw[hL]at HFR hfl
 obtain⟨nf,hnf⟩:∃ n,L.length=n:=⟨_,rfl⟩
 have HNF:=QQ1 hnf
 rw[hnf]at HFR hfl
 unfold drV at HFR ⊢
 have cpl0:=QX3 (HCE.out Y (Below.refl _ _))
 have pZ:=QQ1 (HCE.out Y (Below.refl _ _)).1.2.2
 have HYY:=QQ1 hY
 clear hm hd hL hnf hY
 have d0:decide ((0:Int)<=x)=false:=decide_eq_false (by omega)
 go_enter Try.func92,Try.ntmps92
 go_upto_region 2 with (go_at_call 71; rw [HYY.out]; refine (HFR.out _ (Below.refl _ _)).mono ?_; rintro e9 w6 ⟨av, cv, rfl, hr6, hb6⟩
                        have HR6:=QQ1 hr6
                        have HB6:=QQ1 hb6
                        have cql0:=QX3 (HCE.out w6 (hb6))
                        have qZ:=QQ1 (HCE.out w6 (hb6)).1.2.2
                        clear hr6 hb6)
 go_wp2_with (go_at_call 41;refine(QK0 3 _).mono ?_;rintro e9 w9 ⟨rfl,e4⟩;obtain rfl:=e4.symm)
 exact⟨rfl,rfl,HBY.out.trans (HB6.out.mono (by omega))⟩
theorem slide_no1b (a:Option Addr) (cap:Nat) (C:List Cr) (loops:Int) (gF cF gT cT:Nat) (k x y ua va:Int) (ub vb ov:Bool) (w:World) (hm:mayD C loops=true) (hd:Dr w a cap C gF gT) (hx:0<=x) (hx2:((QQ3 C).length:Int)<=x):
    Calls Try.prog 92 #[drV a cap C loops gF cF gT cT, mvV k x y ua ub va vb ov] w fun e w' => e = .panicked (QZ7 3) ∧ Below w.heap.size w w' := by
 unfold mvV
 obtain⟨Y,hY,hBY,hTY,hsY⟩:=bm_ex w a cap C loops gF cF gT cT k x y ua va ub vb ov
 have HBY:=QQ1 hBY
 have HCE:=QQ1 (bm_ce hTY)
 clear hBY hTY
 have HFR:Hid (∀ W,Below Y.heap.size Y W->Calls Try.prog 71 #[drV a cap C loops gF cF gT cT] W fun e w'=>∃ av cv,e=.returned (.slice av (QQ3 C).length cv)/\RingsR w' (.slice av (QQ3 C).length cv) C (QQ3 C)/\Below W.heap.size W w'):=fun W hW=>
  (QK1 a cap C loops gF cF gT cT W hm (hd.on (HBY.out.trans (hW.mono (by omega))))).mono fun e w' hh=>by
   obtain⟨v,h1,h2,h3⟩:=hh
   have h4:=QV9 hm h2
   obtain⟨av,cv,rfl,-⟩:=id h4
   exact⟨av,cv,h1,h4,h3⟩
 have hfl:(QQ3 C).length<=64:=by have h1:=(QX6 hm).1;have h2:=QK4 hm;omega
 obtain⟨L,hL⟩:∃ L,QQ3 C=L:=⟨_,rfl⟩
 rw[hL]at HFR hfl hx2
 obtain⟨nf,hnf⟩:∃ n,L.length=n:=⟨_,rfl⟩
 have HNF:=QQ1 hnf
 rw[hnf]at HFR hfl hx2
 unfold drV at HFR ⊢
 have cpl0:=QX3 (HCE.out Y (Below.refl _ _))
 have pZ:=QQ1 (HCE.out Y (Below.refl _ _)).1.2.2
 have HYY:=QQ1 hY
 clear hm hd hL hnf hY
 have d0:decide ((0:Int)<=x)=true:=decide_eq_true (by omega)
 have d1:decide (x<(nf:Int))=false:=decide_eq_false (by omega)
 go_enter Try.func92,Try.ntmps92
 go_upto_region 2 with (go_at_call 71; rw [HYY.out]; refine (HFR.out _ (Below.refl _ _)).mono ?_; rintro e9 w6 ⟨av, cv, rfl, hr6, hb6⟩
                        have HR6:=QQ1 hr6
                        have HB6:=QQ1 hb6
                        have cql0:=QX3 (HCE.out w6 (hb6))
                        have qZ:=QQ1 (HCE.out w6 (hb6)).1.2.2
                        clear hr6 hb6)
 go_wp2_with (go_at_call 41;refine(QK0 3 _).mono ?_;rintro e9 w9 ⟨rfl,e4⟩;obtain rfl:=e4.symm)
 exact⟨rfl,rfl,HBY.out.trans (HB6.out.mono (by omega))⟩
theorem slide_no2 (a:Option Addr) (cap:Nat) (C:List Cr) (loops:Int) (gF cF gT cT:Nat) (k y ua va:Int) (x:Nat) (ub vb ov:Bool) (w:World) (hm:mayD C loops=true) (hd:Dr w a cap C gF gT) (l:List Nat) (hx:x<(QQ3 C).length) (hl:(QQ3 C).getD x []=l) (h3:¬ l.length=3):
    Calls Try.prog 92 #[drV a cap C loops gF cF gT cT, mvV k (x : Nat) y ua ub va vb ov] w fun e w' => e = .panicked (QZ7 8) ∧ Below w.heap.size w w' := by
 unfold mvV
 obtain⟨Y,hY,hBY,hTY,hsY⟩:=bm_ex w a cap C loops gF cF gT cT k (x:Nat) y ua va ub vb ov
 have HBY:=QQ1 hBY
 have HCE:=QQ1 (bm_ce hTY)
 clear hBY hTY
 have HFR:Hid (∀ W,Below Y.heap.size Y W->Calls Try.prog 71 #[drV a cap C loops gF cF gT cT] W fun e w'=>∃ av cv,e=.returned (.slice av (QQ3 C).length cv)/\RingsR w' (.slice av (QQ3 C).length cv) C (QQ3 C)/\Below W.heap.size W w'):=fun W hW=>
  (QK1 a cap C loops gF cF gT cT W hm (hd.on (HBY.out.trans (hW.mono (by omega))))).mono fun e w' hh=>by
   obtain⟨v,h1,h2,h3⟩:=hh
   have h4:=QV9 hm h2
   obtain⟨av,cv,rfl,-⟩:=id h4
   exact⟨av,cv,h1,h4,h3⟩
 have hfl:(QQ3 C).length<=64:=by have h1:=(QX6 hm).1;have h2:=QK4 hm;omega
 have HLL:=QQ1 hl
 have hlen:l.length<=1000:=by
  have h1:=((QX6 hm).2 x hx).2.1
  have h2:=QK4 hm
  rw[hl]at h1
  omega
 have HTR:Hid (∀ (ad:Option Addr) (c:Nat) (W:World),Calls Try.prog 115 #[drV a cap C loops gF cF gT cT,.slice ad l.length c] W fun e w'=>e=.returned (.bool false)/\Below W.heap.size W w'):=fun ad c W=>triangle_no a cap C loops gF cF gT cT ad l.length c W h3
 obtain⟨L,hL⟩:∃ L,QQ3 C=L:=⟨_,rfl⟩
 rw[hL]at HFR hfl HLL hx
 obtain⟨nf,hnf⟩:∃ n,L.length=n:=⟨_,rfl⟩
 have HNF:=QQ1 hnf
 rw[hnf]at HFR hfl hx
 unfold drV at HFR HTR ⊢
 have cpl0:=QX3 (HCE.out Y (Below.refl _ _))
 have pZ:=QQ1 (HCE.out Y (Below.refl _ _)).1.2.2
 have HYY:=QQ1 hY
 clear hm hd hL hnf hl hY
 have d0:decide ((0:Int)<=((x:Nat):Int))=true:=decide_eq_true (by omega)
 have d1:decide (((x:Nat):Int)<(nf:Int))=true:=decide_eq_true (by omega)
 have d2:(0:Int)<=((x:Nat):Int):=by omega
 have d3:((x:Nat):Int)<(nf:Int):=by omega
 go_enter Try.func92,Try.ntmps92
 go_upto_region 2 with (go_at_call 71; rw [HYY.out]; refine (HFR.out _ (Below.refl _ _)).mono ?_; rintro e9 w6 ⟨av, cv, rfl, hr6, hb6⟩
                        have HR6:=QQ1 hr6
                        have HB6:=QQ1 hb6
                        have cql0:=QX3 (HCE.out w6 (hb6))
                        have qZ:=QQ1 (HCE.out w6 (hb6)).1.2.2
                        clear hr6 hb6)
 obtain⟨a0,c0,e0,f0⟩:=HR6.out
 rw[HNF.out]at e0
 injection e0 with e1 e2 e3
 obtain⟨bf,of,ea,hbfw,hc⟩:=f0 (by rw[HNF.out];omega)
 obtain⟨g,c,h1,h2⟩:=hc x (by rw[HNF.out];omega)
 have ea2:av=some ⟨bf,of,none⟩:=e1.trans ea
 subst ea2
 rw[HLL.out]at h1 h2
 have HRI:=QQ1 h2
 clear e1 e2 e3 ea hc h2 f0
 obtain⟨nl,hnl⟩:∃ n,l.length=n:=⟨_,rfl⟩
 rw[hnl]at h1 HTR hlen
 clear hnl h3
 go_wp2_with (first
  |(go_at_call 41;refine(QK0 8 _).mono ?_;rintro e9 w9 ⟨rfl,e4⟩;obtain rfl:=e4.symm)
  |(go_at_call 41;refine(QZ3 3 _).mono ?_;rintro e9 w9 ⟨rfl,e4⟩;obtain rfl:=e4.symm)
  | (go_at_call 115; refine (HTR.out _ _ _).mono ?_; rintro e9 w7 ⟨rfl, hb7⟩
     have HB7:=QQ1 (HB6.out.trans (hb7.mono HB6.out.size))
     clear hb7))
 exact⟨rfl,rfl,HBY.out.trans (HB7.out.mono (by omega))⟩
theorem slide_no3 (a:Option Addr) (cap:Nat) (C:List Cr) (loops:Int) (gF cF gT cT:Nat) (k y ua va:Int) (x:Nat) (ub vb ov:Bool) (w:World) (hm:mayD C loops=true) (hd:Dr w a cap C gF gT) (l:List Nat) (hx:x<(QQ3 C).length) (hl:(QQ3 C).getD x []=l) (h3:l.length=3) (ht:triB C l=false):
    Calls Try.prog 92 #[drV a cap C loops gF cF gT cT, mvV k (x : Nat) y ua ub va vb ov] w fun e w' => e = .panicked (QZ7 8) ∧ Below w.heap.size w w' := by
 unfold mvV
 obtain⟨Y,hY,hBY,hTY,hsY⟩:=bm_ex w a cap C loops gF cF gT cT k (x:Nat) y ua va ub vb ov
 have HBY:=QQ1 hBY
 have HCE:=QQ1 (bm_ce hTY)
 clear hBY hTY
 have HFR:Hid (∀ W,Below Y.heap.size Y W->Calls Try.prog 71 #[drV a cap C loops gF cF gT cT] W fun e w'=>∃ av cv,e=.returned (.slice av (QQ3 C).length cv)/\RingsR w' (.slice av (QQ3 C).length cv) C (QQ3 C)/\Below W.heap.size W w'):=fun W hW=>
  (QK1 a cap C loops gF cF gT cT W hm (hd.on (HBY.out.trans (hW.mono (by omega))))).mono fun e w' hh=>by
   obtain⟨v,h1,h2,h3⟩:=hh
   have h4:=QV9 hm h2
   obtain⟨av,cv,rfl,-⟩:=id h4
   exact⟨av,cv,h1,h4,h3⟩
 have hfl:(QQ3 C).length<=64:=by have h1:=(QX6 hm).1;have h2:=QK4 hm;omega
 have HLL:=QQ1 hl
 have hlen:l.length<=1000:=by
  have h1:=((QX6 hm).2 x hx).2.1
  have h2:=QK4 hm
  rw[hl]at h1
  omega
 have HTR:Hid (∀ (g c:Nat) (W:World),Below Y.heap.size Y W->RingAt W g C l->Calls Try.prog 115 #[drV a cap C loops gF cF gT cT,.slice (some ⟨g,0,none⟩) 3 c] W fun e w'=>e=.returned (.bool false)/\Below W.heap.size W w'):=fun g c W hW hr=>by
  have h:=triangle_at a cap C loops gF cF gT cT g c l W hm (hd.on (HBY.out.trans (hW.mono (by omega)))) hr h3
  rw[ht]at h
  exact h
 obtain⟨L,hL⟩:∃ L,QQ3 C=L:=⟨_,rfl⟩
 rw[hL]at HFR hfl HLL hx
 obtain⟨nf,hnf⟩:∃ n,L.length=n:=⟨_,rfl⟩
 have HNF:=QQ1 hnf
 rw[hnf]at HFR hfl hx
 unfold drV at HFR HTR ⊢
 have cpl0:=QX3 (HCE.out Y (Below.refl _ _))
 have pZ:=QQ1 (HCE.out Y (Below.refl _ _)).1.2.2
 have HYY:=QQ1 hY
 have HL3:=QQ1 h3
 clear hm hd hL hnf hl h3 ht hY
 have d0:decide ((0:Int)<=((x:Nat):Int))=true:=decide_eq_true (by omega)
 have d1:decide (((x:Nat):Int)<(nf:Int))=true:=decide_eq_true (by omega)
 have d2:(0:Int)<=((x:Nat):Int):=by omega
 have d3:((x:Nat):Int)<(nf:Int):=by omega
 go_enter Try.func92,Try.ntmps92
 go_upto_region 2 with (go_at_call 71; rw [HYY.out]; refine (HFR.out _ (Below.refl _ _)).mono ?_; rintro e9 w6 ⟨av, cv, rfl, hr6, hb6⟩
                        have HR6:=QQ1 hr6
                        have HB6:=QQ1 hb6
                        have cql0:=QX3 (HCE.out w6 (hb6))
                        have qZ:=QQ1 (HCE.out w6 (hb6)).1.2.2
                        clear hr6 hb6)
 obtain⟨a0,c0,e0,f0⟩:=HR6.out
 rw[HNF.out]at e0
 injection e0 with e1 e2 e3
 obtain⟨bf,of,ea,hbfw,hc⟩:=f0 (by rw[HNF.out];omega)
 obtain⟨g,c,h1,h2⟩:=hc x (by rw[HNF.out];omega)
 have ea2:av=some ⟨bf,of,none⟩:=e1.trans ea
 subst ea2
 rw[HLL.out]at h1 h2
 have HRI:=QQ1 h2
 clear e1 e2 e3 ea hc h2 f0
 rw[HL3.out]at h1
 go_wp2_with (first
  |(go_at_call 41;refine(QK0 8 _).mono ?_;rintro e9 w9 ⟨rfl,e4⟩;obtain rfl:=e4.symm)
  |(go_at_call 41;refine(QZ3 3 _).mono ?_;rintro e9 w9 ⟨rfl,e4⟩;obtain rfl:=e4.symm)
  | (go_at_call 115; refine (HTR.out _ _ _ HB6.out HRI.out).mono ?_; rintro e9 w7 ⟨rfl, hb7⟩
     have HB7:=QQ1 (HB6.out.trans (hb7.mono HB6.out.size))
     have HR7:=QQ1 (HRI.out.on hb7)
     have csl0:=QX3 (HCE.out w7 (HB7.out))
     have sZ:=QQ1 (HCE.out w7 (HB7.out)).1.2.2
     clear hb7))
 exact⟨rfl,rfl,HBY.out.trans (HB7.out.mono (by omega))⟩
theorem slide_no4 (a:Option Addr) (cap:Nat) (C:List Cr) (loops:Int) (gF cF gT cT:Nat) (k y ua va:Int) (x:Nat) (ub vb ov:Bool) (w:World) (hm:mayD C loops=true) (hd:Dr w a cap C gF gT) (l:List Nat) (hx:x<(QQ3 C).length) (hl:(QQ3 C).getD x []=l) (h3:l.length=3) (ht:triB C l=true) (hy:(topB C l&&botB C l)=false):
    Calls Try.prog 92 #[drV a cap C loops gF cF gT cT, mvV k (x : Nat) y ua ub va vb ov] w fun e w' => e = .panicked (QZ7 8) ∧ Below w.heap.size w w' := by
 unfold mvV
 obtain⟨Y,hY,hBY,hTY,hsY⟩:=bm_ex w a cap C loops gF cF gT cT k (x:Nat) y ua va ub vb ov
 have HBY:=QQ1 hBY
 have HCE:=QQ1 (bm_ce hTY)
 clear hBY hTY
 have HFR:Hid (∀ W,Below Y.heap.size Y W->Calls Try.prog 71 #[drV a cap C loops gF cF gT cT] W fun e w'=>∃ av cv,e=.returned (.slice av (QQ3 C).length cv)/\RingsR w' (.slice av (QQ3 C).length cv) C (QQ3 C)/\Below W.heap.size W w'):=fun W hW=>
  (QK1 a cap C loops gF cF gT cT W hm (hd.on (HBY.out.trans (hW.mono (by omega))))).mono fun e w' hh=>by
   obtain⟨v,h1,h2,h3⟩:=hh
   have h4:=QV9 hm h2
   obtain⟨av,cv,rfl,-⟩:=id h4
   exact⟨av,cv,h1,h4,h3⟩
 have hfl:(QQ3 C).length<=64:=by have h1:=(QX6 hm).1;have h2:=QK4 hm;omega
 have HLL:=QQ1 hl
 have hlen:l.length<=1000:=by
  have h1:=((QX6 hm).2 x hx).2.1
  have h2:=QK4 hm
  rw[hl]at h1
  omega
 have HTR:Hid (∀ (g c:Nat) (W:World),Below Y.heap.size Y W->RingAt W g C l->Calls Try.prog 115 #[drV a cap C loops gF cF gT cT,.slice (some ⟨g,0,none⟩) 3 c] W fun e w'=>e=.returned (.bool true)/\Below W.heap.size W w'):=fun g c W hW hr=>by
  have h:=triangle_at a cap C loops gF cF gT cT g c l W hm (hd.on (HBY.out.trans (hW.mono (by omega)))) hr h3
  rw[ht]at h
  exact h
 have HLY:Hid (∀ (g c:Nat) (W:World),Below Y.heap.size Y W->RingAt W g C l->Calls Try.prog 114 #[drV a cap C loops gF cF gT cT,.slice (some ⟨g,0,none⟩) 3 c] W fun e w'=>e=.returned (.bool false)/\Below W.heap.size W w'):=fun g c W hW hr=>by
  have h:=layered_any a cap C loops gF cF gT cT g 3 c l W hm (hd.on (HBY.out.trans (hW.mono (by omega)))) hr.1 h3 (by omega) (fun k hk=>(hr.2.2 k (by omega)).1) (fun k hk=>(hr.2.2 k (by omega)).2)
  rw[hy]at h
  exact h
 obtain⟨L,hL⟩:∃ L,QQ3 C=L:=⟨_,rfl⟩
 rw[hL]at HFR hfl HLL hx
 obtain⟨nf,hnf⟩:∃ n,L.length=n:=⟨_,rfl⟩
 have HNF:=QQ1 hnf
 rw[hnf]at HFR hfl hx
 unfold drV at HFR HTR HLY ⊢
 have cpl0:=QX3 (HCE.out Y (Below.refl _ _))
 have pZ:=QQ1 (HCE.out Y (Below.refl _ _)).1.2.2
 have HYY:=QQ1 hY
 have HL3:=QQ1 h3
 clear hm hd hL hnf hl h3 ht hy hY
 have d0:decide ((0:Int)<=((x:Nat):Int))=true:=decide_eq_true (by omega)
 have d1:decide (((x:Nat):Int)<(nf:Int))=true:=decide_eq_true (by omega)
 have d2:(0:Int)<=((x:Nat):Int):=by omega
 have d3:((x:Nat):Int)<(nf:Int):=by omega
 go_enter Try.func92,Try.ntmps92
 go_upto_region 2 with (go_at_call 71; rw [HYY.out]; refine (HFR.out _ (Below.refl _ _)).mono ?_; rintro e9 w6 ⟨av, cv, rfl, hr6, hb6⟩
                        have HR6:=QQ1 hr6
                        have HB6:=QQ1 hb6
                        have cql0:=QX3 (HCE.out w6 (hb6))
                        have qZ:=QQ1 (HCE.out w6 (hb6)).1.2.2
                        clear hr6 hb6)
 obtain⟨a0,c0,e0,f0⟩:=HR6.out
 rw[HNF.out]at e0
 injection e0 with e1 e2 e3
 obtain⟨bf,of,ea,hbfw,hc⟩:=f0 (by rw[HNF.out];omega)
 obtain⟨g,c,h1,h2⟩:=hc x (by rw[HNF.out];omega)
 have ea2:av=some ⟨bf,of,none⟩:=e1.trans ea
 subst ea2
 rw[HLL.out]at h1 h2
 have HRI:=QQ1 h2
 clear e1 e2 e3 ea hc h2 f0
 rw[HL3.out]at h1
 go_wp2_with (first
  |(go_at_call 41;refine(QK0 8 _).mono ?_;rintro e9 w9 ⟨rfl,e4⟩;obtain rfl:=e4.symm)
  |(go_at_call 41;refine(QZ3 3 _).mono ?_;rintro e9 w9 ⟨rfl,e4⟩;obtain rfl:=e4.symm)
  | (go_at_call 115; refine (HTR.out _ _ _ HB6.out HRI.out).mono ?_; rintro e9 w7 ⟨rfl, hb7⟩
     have HB7:=QQ1 (HB6.out.trans (hb7.mono HB6.out.size))
     have HR7:=QQ1 (HRI.out.on hb7)
     have csl0:=QX3 (HCE.out w7 (HB7.out))
     have sZ:=QQ1 (HCE.out w7 (HB7.out)).1.2.2
     clear hb7)
  | (go_at_call 114; refine (HLY.out _ _ _ HB7.out HR7.out).mono ?_; rintro e9 w8 ⟨rfl, hb8⟩
     have HB8:=QQ1 (HB7.out.trans (hb8.mono HB7.out.size))
     clear hb8))
 exact⟨rfl,rfl,HBY.out.trans (HB8.out.mono (by omega))⟩
theorem slide_yes (a:Option Addr) (cap:Nat) (C:List Cr) (loops:Int) (gF cF gT cT:Nat) (k y ua va:Int) (x:Nat) (ub vb ov:Bool) (w:World) (hm:mayD C loops=true) (hd:Dr w a cap C gF gT) (l:List Nat) (hx:x<(QQ3 C).length) (hl:(QQ3 C).getD x []=l) (h3:l.length=3) (ht:triB C l=true) (hy:(topB C l&&botB C l)=true):
    Calls Try.prog 92 #[drV a cap C loops gF cF gT cT, mvV k (x : Nat) y ua ub va vb ov] w fun e w' => ∃ a' c', e = .returned (.agg #[.slice a' C.length c', .int .i64 loops]) ∧ w'.ownsRow w.heap.size 71 5 (.slice a' C.length c') C.length (QQ4 (relN (slFs C l 3) C C.length)) ∧ Below w.heap.size w w' := by
 unfold mvV
 have hCp:0<C.length:=by
  have h1:=(QX6 hm).1
  omega
 obtain⟨b,off,ea,hbw,hCr⟩:=hd.cross hCp
 subst ea
 obtain⟨Y,hY,hBY,hTY,hsY⟩:=bm_ex w (some ⟨b,off,none⟩) cap C loops gF cF gT cT k (x:Nat) y ua va ub vb ov
 have HBY:=QQ1 hBY
 have HCE:=QQ1 (bm_ce hTY)
 clear hBY hTY
 have HFR:Hid (∀ W,Below Y.heap.size Y W->Calls Try.prog 71 #[drV (some ⟨b,off,none⟩) cap C loops gF cF gT cT] W fun e w'=>∃ av cv,e=.returned (.slice av (QQ3 C).length cv)/\RingsR w' (.slice av (QQ3 C).length cv) C (QQ3 C)/\Below W.heap.size W w'):=fun W hW=>
  (QK1 (some ⟨b,off,none⟩) cap C loops gF cF gT cT W hm (hd.on (HBY.out.trans (hW.mono (by omega))))).mono fun e w' hh=>by
   obtain⟨v,h1,h2,h3⟩:=hh
   have h4:=QV9 hm h2
   obtain⟨av,cv,rfl,-⟩:=id h4
   exact⟨av,cv,h1,h4,h3⟩
 have hfl:(QQ3 C).length<=64:=by have h1:=(QX6 hm).1;have h2:=QK4 hm;omega
 have HLL:=QQ1 hl
 have hlen:l.length<=1000:=by
  have h1:=((QX6 hm).2 x hx).2.1
  have h2:=QK4 hm
  rw[hl]at h1
  omega
 have HTR:Hid (∀ (g c:Nat) (W:World),Below Y.heap.size Y W->RingAt W g C l->Calls Try.prog 115 #[drV (some ⟨b,off,none⟩) cap C loops gF cF gT cT,.slice (some ⟨g,0,none⟩) 3 c] W fun e w'=>e=.returned (.bool true)/\Below W.heap.size W w'):=fun g c W hW hr=>by
  have h:=triangle_at (some ⟨b,off,none⟩) cap C loops gF cF gT cT g c l W hm (hd.on (HBY.out.trans (hW.mono (by omega)))) hr h3
  rw[ht]at h
  exact h
 have HLY:Hid (∀ (g c:Nat) (W:World),Below Y.heap.size Y W->RingAt W g C l->Calls Try.prog 114 #[drV (some ⟨b,off,none⟩) cap C loops gF cF gT cT,.slice (some ⟨g,0,none⟩) 3 c] W fun e w'=>e=.returned (.bool true)/\Below W.heap.size W w'):=fun g c W hW hr=>by
  have h:=layered_any (some ⟨b,off,none⟩) cap C loops gF cF gT cT g 3 c l W hm (hd.on (HBY.out.trans (hW.mono (by omega)))) hr.1 h3 (by omega) (fun k hk=>(hr.2.2 k (by omega)).1) (fun k hk=>(hr.2.2 k (by omega)).2)
  rw[hy]at h
  exact h
 have HM:=QQ1 hm
 have HD:=QQ1 hd
 have HCR:=QQ1 hCr
 have H3:=QQ1 h3
 obtain⟨L,hL⟩:∃ L,QQ3 C=L:=⟨_,rfl⟩
 rw[hL]at HFR hfl HLL hx
 obtain⟨nf,hnf⟩:∃ n,L.length=n:=⟨_,rfl⟩
 have HNF:=QQ1 hnf
 rw[hnf]at HFR hfl hx
 unfold drV at HFR HTR HLY ⊢
 have cpl0:=QX3 (HCE.out Y (Below.refl _ _))
 have pZ:=QQ1 (HCE.out Y (Below.refl _ _)).1.2.2
 have HYY:=QQ1 hY
 have HL3:=QQ1 h3
 clear hm hd hL hnf hl h3 ht hy hCr hY
 have d0:decide ((0:Int)<=((x:Nat):Int))=true:=decide_eq_true (by omega)
 have d1:decide (((x:Nat):Int)<(nf:Int))=true:=decide_eq_true (by omega)
 have d2:(0:Int)<=((x:Nat):Int):=by omega
 have d3:((x:Nat):Int)<(nf:Int):=by omega
 go_enter Try.func92,Try.ntmps92
 go_upto_region 2 with (go_at_call 71; rw [HYY.out]; refine (HFR.out _ (Below.refl _ _)).mono ?_; rintro e9 w6 ⟨av, cv, rfl, hr6, hb6⟩
                        have HR6:=QQ1 hr6
                        have HB6:=QQ1 hb6
                        have cql0:=QX3 (HCE.out w6 (hb6))
                        have qZ:=QQ1 (HCE.out w6 (hb6)).1.2.2
                        clear hr6 hb6)
 obtain⟨a0,c0,e0,f0⟩:=HR6.out
 rw[HNF.out]at e0
 injection e0 with e1 e2 e3
 obtain⟨bf,of,ea,hbfw,hc⟩:=f0 (by rw[HNF.out];omega)
 obtain⟨g,c,h1,h2⟩:=hc x (by rw[HNF.out];omega)
 have ea2:av=some ⟨bf,of,none⟩:=e1.trans ea
 subst ea2
 rw[HLL.out]at h1 h2
 have HRI:=QQ1 h2
 clear e1 e2 e3 ea hc h2 f0
 rw[HL3.out]at h1
 go_upto_region 4 with(go_at_call 41;refine(QZ3 3 _).mono ?_;rintro e9 w9 ⟨rfl,e4⟩;obtain rfl:=e4.symm)
 go_cut [] from 14 (fun wx=>Below w6.heap.size w6 wx)
 case first =>
  go_wp2_with (first
   |(go_at_call 41;refine(QZ3 8 _).mono ?_;rintro e9 w9 ⟨rfl,e4⟩;obtain rfl:=e4.symm)
   | (go_at_call 115; refine (HTR.out _ _ _ HB6.out HRI.out).mono ?_; rintro e9 w7 ⟨rfl, hb7⟩
      have H67:=QQ1 hb7
      have HB7:=QQ1 (HB6.out.trans (hb7.mono HB6.out.size))
      have HR7:=QQ1 (HRI.out.on hb7)
      have csl0:=QX3 (HCE.out w7 (HB7.out))
      have sZ:=QQ1 (HCE.out w7 (HB7.out)).1.2.2
      clear hb7)
   | (go_at_call 114; refine (HLY.out _ _ _ HB7.out HR7.out).mono ?_; rintro e9 w8 ⟨rfl, hb8⟩
      have H68:=QQ1 (H67.out.trans (hb8.mono H67.out.size))
      clear hb8))
  go_meet
  exact H68.out
 case rest=>
  rename World=>W5
  have HC5:=QQ1 hcut
  clear hcut
  have H5:Hid (Below Y.heap.size Y W5):=HB6.out.trans (HC5.out.mono HB6.out.size)
  have HW5:Hid (Below w.heap.size w W5):=HBY.out.trans (H5.out.mono (by omega))
  rename (∀ (a:Act) (w:World),Code.wp _ _ _ a w->_)=>hK5
  refine hK5 _ _ ?_
  exact slide5 b off cap C loops gF cF gT cT _ g c l w W5 _ HM.out (HD.out.on HW5.out) (Nat.lt_of_lt_of_le hbw HW5.out.size) (HCR.out.on HW5.out hbw) (HRI.out.on HC5.out) H3.out (HCE.out W5 H5.out).1.1 (HCE.out W5 H5.out).1.2.2 HW5.out (fun a' c' w' h1 h2=>⟨a',c',rfl,h1,h2⟩) _ _ _ _ _ _ _ _ _ _ _ _ _ _ _ _ _ _ _ _ _ _ _ _ _ _ _ _ _ _ _ _ _ _ _ _ _ _ _ _ _ _ _ _ _ _ _ _ _ _ _ _ _ _ _ _ _ _ _ _ _ _ _ _ _ _ _ _ _ _ _ _ _ _ _ _ _ _ _ _ _ _ _ _ _ _ _ _ _ _ _ _ _ _
end Go.Proofs.Ytagaajlbkfkaiaa
