/- Moves: the walk of bench.pull. Made by genmw4.py. -/
import Derived.Test.YtagaajlbkfkaiaaMV6P
import Derived.Test.YtagaajlbkfkaiaaMW1P
import Derived.Test.YtagaajlbkfkaiaaME1P
import Derived.Test.YtagaajlbkfkaiaaR3
namespace Go.Proofs.Ytagaajlbkfkaiaa
open Go.RowKit
set_option maxHeartbeats 4000000
set_option maxRecDepth 100000
theorem pull_no1 (a:Option Addr) (cap:Nat) (C:List Cr) (loops:Int) (gF cF gT cT:Nat) (k x y ua va:Int) (ub vb ov:Bool) (w:World) (h:crB C x=false):
    Calls Try.prog 91 #[drV a cap C loops gF cF gT cT, mvV k x y ua ub va vb ov] w fun e w' => e = .panicked (QZ7 3) ∧ Below w.heap.size w w' := by
 unfold mvV
 obtain⟨Y,hY,hBY,hTY,hsY⟩:=bm_ex w a cap C loops gF cF gT cT k x y ua va ub vb ov
 have HBY:=QQ1 hBY
 have HCE:=QQ1 (bm_ce hTY)
 clear hBY hTY
 have HHC:Hid (∀ (z:Int) (W:World),Calls Try.prog 107 #[drV a cap C loops gF cF gT cT,.int .i64 z] W fun e w'=>e=.returned (.bool (crB C z))/\Below W.heap.size W w'):=fun z W=>QJ1 a cap C loops gF cF gT cT z W
 have HX:=QQ1 (HHC.out x Y)
 rw[h]at HX
 unfold drV at HX ⊢
 have cpl0:=QX3 (HCE.out Y (Below.refl _ _))
 have pZ:=QQ1 (HCE.out Y (Below.refl _ _)).1.2.2
 clear h HHC
 go_enter Try.func91,Try.ntmps91
 go_wp2_with (first
  |(go_at_call 41;refine(QK0 3 _).mono ?_;rintro e9 w4 ⟨rfl,e4⟩;obtain rfl:=e4.symm)
  | (go_at_call 107; refine HX.out.mono ?_; rintro e9 w3 ⟨rfl, hb3⟩
     have HB3:=QQ1 hb3
     clear hb3))
 exact⟨rfl,rfl,HBY.out.trans (HB3.out.mono (by omega))⟩
theorem pull_no1b (a:Option Addr) (cap:Nat) (C:List Cr) (loops:Int) (gF cF gT cT:Nat) (k x y ua va:Int) (ub vb ov:Bool) (w:World) (h:crB C x=true) (h2:crB C y=false):
    Calls Try.prog 91 #[drV a cap C loops gF cF gT cT, mvV k x y ua ub va vb ov] w fun e w' => e = .panicked (QZ7 3) ∧ Below w.heap.size w w' := by
 unfold mvV
 obtain⟨Y,hY,hBY,hTY,hsY⟩:=bm_ex w a cap C loops gF cF gT cT k x y ua va ub vb ov
 have HBY:=QQ1 hBY
 have HCE:=QQ1 (bm_ce hTY)
 clear hBY hTY
 have HHC:Hid (∀ (z:Int) (W:World),Calls Try.prog 107 #[drV a cap C loops gF cF gT cT,.int .i64 z] W fun e w'=>e=.returned (.bool (crB C z))/\Below W.heap.size W w'):=fun z W=>QJ1 a cap C loops gF cF gT cT z W
 have HX:=QQ1 (HHC.out x Y)
 rw[h]at HX
 have HYY:Hid (∀ W:World,Calls Try.prog 107 #[drV a cap C loops gF cF gT cT,.int .i64 y] W fun e w'=>e=.returned (.bool false)/\Below W.heap.size W w'):=fun W=>by
  have:=HHC.out y W
  rw[h2]at this
  exact this
 unfold drV at HX HYY ⊢
 have cpl0:=QX3 (HCE.out Y (Below.refl _ _))
 have pZ:=QQ1 (HCE.out Y (Below.refl _ _)).1.2.2
 have hE:x≠y:=by
  rintro rfl
  rw[h]at h2
  cases h2
 clear h h2 HHC
 go_enter Try.func91,Try.ntmps91
 go_wp2_with (first
  |(go_at_call 41;refine(QK0 3 _).mono ?_;rintro e9 w4 ⟨rfl,e4⟩;obtain rfl:=e4.symm)
  | (go_at_call 107; refine HX.out.mono ?_; rintro e9 w3 ⟨rfl, hb3⟩
     have HB3:=QQ1 hb3
     have cql0:=QX3 (HCE.out w3 (hb3))
     have qZ:=QQ1 (HCE.out w3 (hb3)).1.2.2
     clear hb3 HX)
  | (go_at_call 107; refine (HYY.out _).mono ?_; rintro e9 w5 ⟨rfl, hb5⟩
     have HB5:=QQ1 (HB3.out.trans (hb5.mono HB3.out.size))
     clear hb5))
 exact⟨rfl,rfl,HBY.out.trans (HB5.out.mono (by omega))⟩
theorem pull_no1c (a:Option Addr) (cap:Nat) (C:List Cr) (loops:Int) (gF cF gT cT:Nat) (k ua va:Int) (x:Nat) (ub vb ov:Bool) (w:World) (h:crB C (x:Nat)=true):
    Calls Try.prog 91 #[drV a cap C loops gF cF gT cT, mvV k (x : Nat) (x : Nat) ua ub va vb ov] w fun e w' => e = .panicked (QZ7 3) ∧ Below w.heap.size w w' := by
 unfold mvV
 obtain⟨Y,hY,hBY,hTY,hsY⟩:=bm_ex w a cap C loops gF cF gT cT k (x:Nat) (x:Nat) ua va ub vb ov
 have HBY:=QQ1 hBY
 have HCE:=QQ1 (bm_ce hTY)
 clear hBY hTY
 have HHC:Hid (∀ (z:Int) (W:World),Calls Try.prog 107 #[drV a cap C loops gF cF gT cT,.int .i64 z] W fun e w'=>e=.returned (.bool (crB C z))/\Below W.heap.size W w'):=fun z W=>QJ1 a cap C loops gF cF gT cT z W
 have HX:Hid (∀ W:World,Calls Try.prog 107 #[drV a cap C loops gF cF gT cT,.int .i64 (x:Nat)] W fun e w'=>e=.returned (.bool true)/\Below W.heap.size W w'):=fun W=>by
  have:=HHC.out (x:Nat) W
  rw[h]at this
  exact this
 unfold drV at HX ⊢
 have cpl0:=QX3 (HCE.out Y (Below.refl _ _))
 have pZ:=QQ1 (HCE.out Y (Below.refl _ _)).1.2.2
 have d1:(((x:Nat):Int) != ((x:Nat):Int))=false:=by simp
 have HG:Hid (∃ W3,W3=Y):=⟨_,rfl⟩
 clear h HHC
 go_enter Try.func91,Try.ntmps91
 go_wp2_with (first
  |(go_at_call 41;refine(QK0 3 _).mono ?_;rintro e9 w4 ⟨rfl,e4⟩;obtain rfl:=e4.symm)
  | (go_at_call 107; have hAA := HG; clear hAA; clear HG; refine (HX.out _).mono ?_; rintro e9 w3 ⟨rfl, hb3⟩
     have HB3:=QQ1 hb3
     have cql0:=QX3 (HCE.out w3 (hb3))
     have qZ:=QQ1 (HCE.out w3 (hb3)).1.2.2
     clear hb3)
  | (go_at_call 107; refine (HX.out _).mono ?_; rintro e9 w5 ⟨rfl, hb5⟩
     have HB5:=QQ1 (HB3.out.trans (hb5.mono HB3.out.size))
     have csl0:=QX3 (HCE.out w5 (HB5.out))
     have sZ:=QQ1 (HCE.out w5 (HB5.out)).1.2.2
     clear hb5))
 exact⟨rfl,rfl,HBY.out.trans (HB5.out.mono (by omega))⟩
theorem pull_no2 (a:Option Addr) (cap:Nat) (C:List Cr) (loops:Int) (gF cF gT cT:Nat) (k ua va:Int) (x y:Nat) (ub vb ov:Bool) (w:World) (hm:mayD C loops=true) (hd:Dr w a cap C gF gT) (hx:x<C.length) (hy:y<C.length) (hxy:x≠y) (h:(QQ3 C).any (jlB C x y)=false)  :
    Calls Try.prog 91 #[drV a cap C loops gF cF gT cT, mvV k (x : Nat) (y : Nat) ua ub va vb ov] w fun e w' => e = .panicked (QZ7 8) ∧ Below w.heap.size w w' := by
 unfold mvV
 obtain⟨Y,hY,hBY,hTY,hsY⟩:=bm_ex w a cap C loops gF cF gT cT k (x:Nat) (y:Nat) ua va ub vb ov
 have HBY:=QQ1 hBY
 have HCE:=QQ1 (bm_ce hTY)
 clear hBY hTY
 have HHC:Hid (∀ (z:Int) (W:World),Calls Try.prog 107 #[drV a cap C loops gF cF gT cT,.int .i64 z] W fun e w'=>e=.returned (.bool (crB C z))/\Below W.heap.size W w'):=fun z W=>QJ1 a cap C loops gF cF gT cT z W
 have HX:Hid (∀ (z:Nat) (W:World),z<C.length->Calls Try.prog 107 #[drV a cap C loops gF cF gT cT,.int .i64 (z:Nat)] W fun e w'=>e=.returned (.bool true)/\Below W.heap.size W w'):=fun z W hz=>by
  have:=HHC.out (z:Nat) W
  have hc:crB C (z:Nat)=true:=by unfold crB;simp;omega
  rw[hc]at this
  exact this
 have HFR:Hid (∀ W,Below Y.heap.size Y W->Calls Try.prog 71 #[drV a cap C loops gF cF gT cT] W fun e w'=>∃ av cv,e=.returned (.slice av (QQ3 C).length cv)/\RingsR w' (.slice av (QQ3 C).length cv) C (QQ3 C)/\Below W.heap.size W w'):=fun W hW=>
  (QK1 a cap C loops gF cF gT cT W hm (hd.on (HBY.out.trans (hW.mono (by omega))))).mono fun e w' hh=>by
   obtain⟨v,h1,h2,h3⟩:=hh
   have h4:=QV9 hm h2
   obtain⟨av,cv,rfl,-⟩:=id h4
   exact⟨av,cv,h1,h4,h3⟩
 have HCO:Hid (∀ (v:Value) (W:World),Below Y.heap.size Y W->RingsR W v C (QQ3 C)->Calls Try.prog 111 #[v,.func (.func 112) #[] #[.pointer (some ⟨w.heap.size,0,none⟩),.pointer (some ⟨w.heap.size+1,0,none⟩)]] W fun e w'=>e=.returned (.bool false)/\Below W.heap.size W w'):=fun v W hW hr=>by
  have hfl:=(QX6 hm).1
  have h16:=QK4 hm
  have:=QU2 a cap C loops gF cF gT cT k ua va x y ub vb ov w.heap.size (w.heap.size+1) v (QQ3 C) W hm (hd.on (HBY.out.trans (hW.mono (by omega)))) (by omega) hr ⟨(HCE.out W hW).1.1,(HCE.out W hW).1.2.1⟩
  rw[h]at this
  exact this
 obtain⟨nf,hnf⟩:∃ n,(QQ3 C).length=n:=⟨_,rfl⟩
 rw[hnf]at HFR
 unfold drV at HX HFR ⊢
 have cpl0:=QX3 (HCE.out Y (Below.refl _ _))
 have pZ:=QQ1 (HCE.out Y (Below.refl _ _)).1.2.2
 have d1:(((x:Nat):Int) != ((y:Nat):Int))=true:=bne_iff_ne.2 (by omega)
 have HX1:=QQ1 (HX.out x Y hx)
 have HX2:Hid (∀ W:World,Calls Try.prog 107 #[.agg #[.slice a C.length cap,.int .i64 loops,.slice (some ⟨gF,0,none⟩) (2*C.length+1) cF,.slice (some ⟨gT,0,none⟩) (2*C.length+1) cT],.int .i64 (y:Nat)] W fun e w'=>e=.returned (.bool true)/\Below W.heap.size W w'):=fun W=>HX.out y W hy
 clear h hm hd HHC HX hnf 
 go_enter Try.func91,Try.ntmps91
 go_upto_region 2 with(first
  |(go_at_call 41;refine(QZ3 3 _).mono ?_;rintro e9 w4 ⟨rfl,e4⟩;obtain rfl:=e4.symm)
  | (go_at_call 107; refine HX1.out.mono ?_; rintro e9 w3 ⟨rfl, hb3⟩
     have HB3:=QQ1 hb3
     have cql0:=QX3 (HCE.out w3 (hb3))
     have qZ:=QQ1 (HCE.out w3 (hb3)).1.2.2
     clear hb3 HX1)
  | (go_at_call 107; refine (HX2.out _).mono ?_; rintro e9 w5 ⟨rfl, hb5⟩
     have HB5:=QQ1 (HB3.out.trans (hb5.mono HB3.out.size))
     have csl0:=QX3 (HCE.out w5 (HB5.out))
     have sZ:=QQ1 (HCE.out w5 (HB5.out)).1.2.2
     clear hb5))
 go_wp2_with (first
  |(go_at_call 41;refine(QK0 8 _).mono ?_;rintro e9 w4 ⟨rfl,e4⟩;obtain rfl:=e4.symm)
  | (go_at_call 71; refine (HFR.out _ HB5.out).mono ?_; rintro e9 w6 ⟨av, cv, rfl, hr6, hb6⟩
     have HR6:=QQ1 hr6
     have HB6:=QQ1 (HB5.out.trans (hb6.mono HB5.out.size))
     clear hb6 hr6)
  | (go_at_call 111; refine (HCO.out _ _ HB6.out HR6.out).mono ?_; rintro e9 w7 ⟨rfl, hb7⟩
     have HB7:=QQ1 (HB6.out.trans (hb7.mono HB6.out.size))
     have ctl0:=QX3 (HCE.out w7 (HB7.out))
     have tZ:=QQ1 (HCE.out w7 (HB7.out)).1.2.2
     clear hb7))
 exact⟨rfl,rfl,HBY.out.trans (HB7.out.mono (by omega))⟩
theorem pull_no3 (a:Option Addr) (cap:Nat) (C:List Cr) (loops:Int) (gF cF gT cT:Nat) (k ua va:Int) (x y:Nat) (ub vb ov:Bool) (w:World) (hm:mayD C loops=true) (hd:Dr w a cap C gF gT) (hx:x<C.length) (hy:y<C.length) (hxy:x≠y) (h:(QQ3 C).any (jlB C x y)=true) (hL:16<takL C loops [x,y]):
    Calls Try.prog 91 #[drV a cap C loops gF cF gT cT, mvV k (x : Nat) (y : Nat) ua ub va vb ov] w fun e w' => e = .panicked (QZ7 2) ∧ Below w.heap.size w w' := by
 unfold mvV
 obtain⟨Y,hY,hBY,hTY,hsY⟩:=bm_ex w a cap C loops gF cF gT cT k (x:Nat) (y:Nat) ua va ub vb ov
 have HBY:=QQ1 hBY
 have HCE:=QQ1 (bm_ce hTY)
 clear hBY hTY
 have HHC:Hid (∀ (z:Int) (W:World),Calls Try.prog 107 #[drV a cap C loops gF cF gT cT,.int .i64 z] W fun e w'=>e=.returned (.bool (crB C z))/\Below W.heap.size W w'):=fun z W=>QJ1 a cap C loops gF cF gT cT z W
 have HX:Hid (∀ (z:Nat) (W:World),z<C.length->Calls Try.prog 107 #[drV a cap C loops gF cF gT cT,.int .i64 (z:Nat)] W fun e w'=>e=.returned (.bool true)/\Below W.heap.size W w'):=fun z W hz=>by
  have:=HHC.out (z:Nat) W
  have hc:crB C (z:Nat)=true:=by unfold crB;simp;omega
  rw[hc]at this
  exact this
 have HFR:Hid (∀ W,Below Y.heap.size Y W->Calls Try.prog 71 #[drV a cap C loops gF cF gT cT] W fun e w'=>∃ av cv,e=.returned (.slice av (QQ3 C).length cv)/\RingsR w' (.slice av (QQ3 C).length cv) C (QQ3 C)/\Below W.heap.size W w'):=fun W hW=>
  (QK1 a cap C loops gF cF gT cT W hm (hd.on (HBY.out.trans (hW.mono (by omega))))).mono fun e w' hh=>by
   obtain⟨v,h1,h2,h3⟩:=hh
   have h4:=QV9 hm h2
   obtain⟨av,cv,rfl,-⟩:=id h4
   exact⟨av,cv,h1,h4,h3⟩
 have HCO:Hid (∀ (v:Value) (W:World),Below Y.heap.size Y W->RingsR W v C (QQ3 C)->Calls Try.prog 111 #[v,.func (.func 112) #[] #[.pointer (some ⟨w.heap.size,0,none⟩),.pointer (some ⟨w.heap.size+1,0,none⟩)]] W fun e w'=>e=.returned (.bool true)/\Below W.heap.size W w'):=fun v W hW hr=>by
  have hfl:=(QX6 hm).1
  have h16:=QK4 hm
  have:=QU2 a cap C loops gF cF gT cT k ua va x y ub vb ov w.heap.size (w.heap.size+1) v (QQ3 C) W hm (hd.on (HBY.out.trans (hW.mono (by omega)))) (by omega) hr ⟨(HCE.out W hW).1.1,(HCE.out W hW).1.2.1⟩
  rw[h]at this
  exact this
 obtain⟨nf,hnf⟩:∃ n,(QQ3 C).length=n:=⟨_,rfl⟩
 rw[hnf]at HFR
 have HWI:Hid (∀ (W:World) (g cG:Nat),Below Y.heap.size Y W->GonAt W g [x,y]->Calls Try.prog 109 #[drV a cap C loops gF cF gT cT,.slice (some ⟨g,0,none⟩) 2 cG] W fun e w'=>e=.panicked (QZ7 2)/\Below W.heap.size W w'):=fun W g cG hW hg=>by
  have:=without_no a cap C loops gF cF gT cT g cG [x,y] W hm (hd.on (HBY.out.trans (hW.mono (by omega)))) (by simp) hg hL
  exact this
 unfold drV at HX HFR HWI ⊢
 have cpl0:=QX3 (HCE.out Y (Below.refl _ _))
 have pZ:=QQ1 (HCE.out Y (Below.refl _ _)).1.2.2
 have d1:(((x:Nat):Int) != ((y:Nat):Int))=true:=bne_iff_ne.2 (by omega)
 have HX1:=QQ1 (HX.out x Y hx)
 have HX2:Hid (∀ W:World,Calls Try.prog 107 #[.agg #[.slice a C.length cap,.int .i64 loops,.slice (some ⟨gF,0,none⟩) (2*C.length+1) cF,.slice (some ⟨gT,0,none⟩) (2*C.length+1) cT],.int .i64 (y:Nat)] W fun e w'=>e=.returned (.bool true)/\Below W.heap.size W w'):=fun W=>HX.out y W hy
 clear h hm hd HHC HX hnf hL
 go_enter Try.func91,Try.ntmps91
 go_upto_region 2 with(first
  |(go_at_call 41;refine(QZ3 3 _).mono ?_;rintro e9 w4 ⟨rfl,e4⟩;obtain rfl:=e4.symm)
  | (go_at_call 107; refine HX1.out.mono ?_; rintro e9 w3 ⟨rfl, hb3⟩
     have HB3:=QQ1 hb3
     have cql0:=QX3 (HCE.out w3 (hb3))
     have qZ:=QQ1 (HCE.out w3 (hb3)).1.2.2
     clear hb3 HX1)
  | (go_at_call 107; refine (HX2.out _).mono ?_; rintro e9 w5 ⟨rfl, hb5⟩
     have HB5:=QQ1 (HB3.out.trans (hb5.mono HB3.out.size))
     have csl0:=QX3 (HCE.out w5 (HB5.out))
     have sZ:=QQ1 (HCE.out w5 (HB5.out)).1.2.2
     clear hb5))
 go_upto_region 3 with(first
  |(go_at_call 41;refine(QZ3 8 _).mono ?_;rintro e9 w4 ⟨rfl,e4⟩;obtain rfl:=e4.symm)
  | (go_at_call 71; refine (HFR.out _ HB5.out).mono ?_; rintro e9 w6 ⟨av, cv, rfl, hr6, hb6⟩
     have HR6:=QQ1 hr6
     have HB6:=QQ1 (HB5.out.trans (hb6.mono HB5.out.size))
     clear hb6 hr6)
  | (go_at_call 111; refine (HCO.out _ _ HB6.out HR6.out).mono ?_; rintro e9 w7 ⟨rfl, hb7⟩
     have HB7:=QQ1 (HB6.out.trans (hb7.mono HB6.out.size))
     have ctl0:=QX3 (HCE.out w7 (HB7.out))
     have tZ:=QQ1 (HCE.out w7 (HB7.out)).1.2.2
     clear hb7))
 have hs7:=HB7.out.size
 have HG8:Hid (GonAt (w7.alloc (.cells #[.int .i64 (x:Nat),.int .i64 (y:Nat)] 3)) w7.heap.size [x,y]):=⟨by simp,fun i hi=>by
  have hi':i<2:=hi
  rcases(by omega:i=0∨i=1) with rfl|rfl
  · exact QQ0 (alloc_at rfl) rfl
  · exact QQ0 (alloc_at rfl) rfl⟩
 have HB8:Hid (Below Y.heap.size Y (w7.alloc (.cells #[.int .i64 (x:Nat),.int .i64 (y:Nat)] 3))):=HB7.out.alloc hs7 _
 go_wp2_with (go_at_call 109;refine(HWI.out _ _ _ HB8.out HG8.out).mono ?_;rintro e9 w9 ⟨rfl,hb9⟩)
 exact⟨rfl,rfl,HBY.out.trans ((HB8.out.trans (hb9.mono HB8.out.size)).mono (by omega))⟩
theorem pull_yes (a:Option Addr) (cap:Nat) (C:List Cr) (loops:Int) (gF cF gT cT:Nat) (k ua va:Int) (x y:Nat) (ub vb ov:Bool) (w:World) (hm:mayD C loops=true) (hd:Dr w a cap C gF gT) (hx:x<C.length) (hy:y<C.length) (hxy:x≠y) (h:(QQ3 C).any (jlB C x y)=true) (hL:takL C loops [x,y]<=16):
    Calls Try.prog 91 #[drV a cap C loops gF cF gT cT, mvV k (x : Nat) (y : Nat) ua ub va vb ov] w fun e w' => ∃ a2 c2, e = .returned (.agg #[.slice a2 (takC C [x, y]).length c2, .int .i64 (takL C loops [x, y])]) ∧ w'.ownsRow w.heap.size 71 5 (.slice a2 (takC C [x, y]).length c2) (takC C [x, y]).length (QQ4 (takC C [x, y])) ∧ Below w.heap.size w w' := by
 unfold mvV
 obtain⟨Y,hY,hBY,hTY,hsY⟩:=bm_ex w a cap C loops gF cF gT cT k (x:Nat) (y:Nat) ua va ub vb ov
 have HBY:=QQ1 hBY
 have HCE:=QQ1 (bm_ce hTY)
 clear hBY hTY
 have HHC:Hid (∀ (z:Int) (W:World),Calls Try.prog 107 #[drV a cap C loops gF cF gT cT,.int .i64 z] W fun e w'=>e=.returned (.bool (crB C z))/\Below W.heap.size W w'):=fun z W=>QJ1 a cap C loops gF cF gT cT z W
 have HX:Hid (∀ (z:Nat) (W:World),z<C.length->Calls Try.prog 107 #[drV a cap C loops gF cF gT cT,.int .i64 (z:Nat)] W fun e w'=>e=.returned (.bool true)/\Below W.heap.size W w'):=fun z W hz=>by
  have:=HHC.out (z:Nat) W
  have hc:crB C (z:Nat)=true:=by unfold crB;simp;omega
  rw[hc]at this
  exact this
 have HFR:Hid (∀ W,Below Y.heap.size Y W->Calls Try.prog 71 #[drV a cap C loops gF cF gT cT] W fun e w'=>∃ av cv,e=.returned (.slice av (QQ3 C).length cv)/\RingsR w' (.slice av (QQ3 C).length cv) C (QQ3 C)/\Below W.heap.size W w'):=fun W hW=>
  (QK1 a cap C loops gF cF gT cT W hm (hd.on (HBY.out.trans (hW.mono (by omega))))).mono fun e w' hh=>by
   obtain⟨v,h1,h2,h3⟩:=hh
   have h4:=QV9 hm h2
   obtain⟨av,cv,rfl,-⟩:=id h4
   exact⟨av,cv,h1,h4,h3⟩
 have HCO:Hid (∀ (v:Value) (W:World),Below Y.heap.size Y W->RingsR W v C (QQ3 C)->Calls Try.prog 111 #[v,.func (.func 112) #[] #[.pointer (some ⟨w.heap.size,0,none⟩),.pointer (some ⟨w.heap.size+1,0,none⟩)]] W fun e w'=>e=.returned (.bool true)/\Below W.heap.size W w'):=fun v W hW hr=>by
  have hfl:=(QX6 hm).1
  have h16:=QK4 hm
  have:=QU2 a cap C loops gF cF gT cT k ua va x y ub vb ov w.heap.size (w.heap.size+1) v (QQ3 C) W hm (hd.on (HBY.out.trans (hW.mono (by omega)))) (by omega) hr ⟨(HCE.out W hW).1.1,(HCE.out W hW).1.2.1⟩
  rw[h]at this
  exact this
 obtain⟨nf,hnf⟩:∃ n,(QQ3 C).length=n:=⟨_,rfl⟩
 rw[hnf]at HFR
 obtain⟨D,hD⟩:∃ D,takC C [x,y]=D:=⟨_,rfl⟩
 obtain⟨lo,hlo⟩:∃ l,takL C loops [x,y]=l:=⟨_,rfl⟩
 have HWI:Hid (∀ (W:World) (g cG:Nat),Below Y.heap.size Y W->GonAt W g [x,y]->Calls Try.prog 109 #[drV a cap C loops gF cF gT cT,.slice (some ⟨g,0,none⟩) 2 cG] W fun e w'=>∃ a2 c2,e=.returned (.agg #[.slice a2 D.length c2,.int .i64 lo])/\w'.ownsRow W.heap.size 71 5 (.slice a2 D.length c2) D.length (QQ4 D)/\Below W.heap.size W w'):=fun W g cG hW hg=>by
  have:=without_yes a cap C loops gF cF gT cT g cG [x,y] W hm (hd.on (HBY.out.trans (hW.mono (by omega)))) (by simp) hg hL
  rw[hD,hlo]at this
  exact this
 rw[hD,hlo]
 unfold drV at HX HFR HWI ⊢
 have cpl0:=QX3 (HCE.out Y (Below.refl _ _))
 have pZ:=QQ1 (HCE.out Y (Below.refl _ _)).1.2.2
 have d1:(((x:Nat):Int) != ((y:Nat):Int))=true:=bne_iff_ne.2 (by omega)
 have HX1:=QQ1 (HX.out x Y hx)
 have HX2:Hid (∀ W:World,Calls Try.prog 107 #[.agg #[.slice a C.length cap,.int .i64 loops,.slice (some ⟨gF,0,none⟩) (2*C.length+1) cF,.slice (some ⟨gT,0,none⟩) (2*C.length+1) cT],.int .i64 (y:Nat)] W fun e w'=>e=.returned (.bool true)/\Below W.heap.size W w'):=fun W=>HX.out y W hy
 clear h hm hd HHC HX hnf hL
 go_enter Try.func91,Try.ntmps91
 go_upto_region 2 with(first
  |(go_at_call 41;refine(QZ3 3 _).mono ?_;rintro e9 w4 ⟨rfl,e4⟩;obtain rfl:=e4.symm)
  | (go_at_call 107; refine HX1.out.mono ?_; rintro e9 w3 ⟨rfl, hb3⟩
     have HB3:=QQ1 hb3
     have cql0:=QX3 (HCE.out w3 (hb3))
     have qZ:=QQ1 (HCE.out w3 (hb3)).1.2.2
     clear hb3 HX1)
  | (go_at_call 107; refine (HX2.out _).mono ?_; rintro e9 w5 ⟨rfl, hb5⟩
     have HB5:=QQ1 (HB3.out.trans (hb5.mono HB3.out.size))
     have csl0:=QX3 (HCE.out w5 (HB5.out))
     have sZ:=QQ1 (HCE.out w5 (HB5.out)).1.2.2
     clear hb5))
 go_upto_region 3 with(first
  |(go_at_call 41;refine(QZ3 8 _).mono ?_;rintro e9 w4 ⟨rfl,e4⟩;obtain rfl:=e4.symm)
  | (go_at_call 71; refine (HFR.out _ HB5.out).mono ?_; rintro e9 w6 ⟨av, cv, rfl, hr6, hb6⟩
     have HR6:=QQ1 hr6
     have HB6:=QQ1 (HB5.out.trans (hb6.mono HB5.out.size))
     clear hb6 hr6)
  | (go_at_call 111; refine (HCO.out _ _ HB6.out HR6.out).mono ?_; rintro e9 w7 ⟨rfl, hb7⟩
     have HB7:=QQ1 (HB6.out.trans (hb7.mono HB6.out.size))
     have ctl0:=QX3 (HCE.out w7 (HB7.out))
     have tZ:=QQ1 (HCE.out w7 (HB7.out)).1.2.2
     clear hb7))
 have hs7:=HB7.out.size
 have HG8:Hid (GonAt (w7.alloc (.cells #[.int .i64 (x:Nat),.int .i64 (y:Nat)] 3)) w7.heap.size [x,y]):=⟨by simp,fun i hi=>by
  have hi':i<2:=hi
  rcases(by omega:i=0∨i=1) with rfl|rfl
  · exact QQ0 (alloc_at rfl) rfl
  · exact QQ0 (alloc_at rfl) rfl⟩
 have HB8:Hid (Below Y.heap.size Y (w7.alloc (.cells #[.int .i64 (x:Nat),.int .i64 (y:Nat)] 3))):=HB7.out.alloc hs7 _
 go_wp2_with (go_at_call 109;refine(HWI.out _ _ _ HB8.out HG8.out).mono ?_;rintro e9 w9 ⟨a2,c2,rfl,ho9,hb9⟩
              have HO9:=QQ1 ho9
              have HB9:=QQ1 (HB8.out.trans (hb9.mono HB8.out.size))
              have hs9:=hb9.size
              have cul0:=QX3 (HCE.out w9 (HB9.out))
              have uZ:=QQ1 (HCE.out w9 (HB9.out)).1.2.2
              clear ho9 hb9)
 have hZ:=st2D (a:=.slice a2 D.length c2) (b:=.int .i64 lo) uZ.out
 have x0:=QQ0 (i:=0) (v:=.slice a2 D.length c2) hZ rfl
 have x1:=QQ0 (i:=1) (v:=.int .i64 lo) hZ rfl
 refine bodyPost_ret (v:=.agg #[.slice a2 D.length c2,.int .i64 lo]) (by simp[results,Try.results91,go_sem,x0,x1]) rfl ⟨a2,c2,rfl,?_,?_⟩
 · exact QX4 (own_two HO9.out (by have:=HB8.out.size;simp at this ⊢;omega) _ _) (by have:=HB8.out.size;simp at this ⊢;omega)
 · exact((HBY.out.trans (HB9.out.mono (by omega))).setCell (p:=⟨w.heap.size+1+1,0,none⟩) (by simp only;omega) _).setCell (p:=⟨w.heap.size+1+1,1,none⟩) (by simp only;omega) _
end Go.Proofs.Ytagaajlbkfkaiaa
