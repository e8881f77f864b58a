/- Several texts of the proof, one behind the other. -/
import Derived.Test.YtagaajlbkfkaiaaF2P
import Derived.Test.YtagaajlbkfkaiaaJ3h
import Derived.Test.YtagaajlbkfkaiaaMV1
import Derived.Test.YtagaajlbkfkaiaaMV5
import Derived.Test.YtagaajlbkfkaiaaMV6P
import Derived.Test.YtagaajlbkfkaiaaMVc
import Derived.Test.YtagaajlbkfkaiaaMVjP
import Derived.Test.YtagaajlbkfkaiaaME1P
import Derived.Test.YtagaajlbkfkaiaaOmP
import Derived.Deep.RegionHeld
import Derived.BigRegion
import Derived.Test.YtagaajlbkfkaiaaJ8
import Derived.Test.YtagaajlbkfkaiaaTK3P
/- The walk of (bench).without: crossings taken out, their strands going on. -/
namespace Go.Proofs.Ytagaajlbkfkaiaa
open Go.RowKit
set_option maxHeartbeats 4000000
set_option maxRecDepth 100000
def takL (C:List Cr) (loops:Int) (G:List Nat):Int:=loops+(cntB (lfB (uniM C (nx C) G) (stB C G (uniM C (nx C) G) (2*C.length+1))) (2*C.length+1):Nat)
def takC (C:List Cr) (G:List Nat):List Cr:=reTo C G (numM (uniM C (nx C) G) (ltB (uniM C (nx C) G) (stB C G (uniM C (nx C) G) (2*C.length+1)))) C.length
theorem st2D {W:World} {z:Nat} {a b c d:Value} {t:TypeId} {fz:Nat×Nat} (h:W.heap[z]?=some (.cells #[c,d] t fz)):((W.setCell ⟨z,0,none⟩ a).setCell ⟨z,1,none⟩ b).heap[z]?=some (.cells #[a,b] t fz):=QQ6 (QQ6 h)
theorem own_two {W:World} {B e s n z:Nat} {v:Value} {xs:List Value} (h:W.ownsRow B e s v n xs) (hz:z<B) (a b:Value):((W.setCell ⟨z,0,none⟩ a).setCell ⟨z,1,none⟩ b).ownsRow B e s v n xs:=by
 refine h.kept (QQ8 (QQ7 W z 0 a) (QQ7 (W.setCell ⟨z,0,none⟩ a) z 1 b)) ?_
 cases hv:v.ownBlock with
 |none=>exact Or.inl rfl
 |some k=>exact Or.inr (fun e=>by have h1:=(h.lt k hv).1;have h2:=Option.some.inj e;omega)
theorem without_yes (a:Option Addr) (cap:Nat) (C:List Cr) (loops:Int) (gF cF gT cT:Nat) (bG cG:Nat) (G:List Nat) (w:World) (hm:mayD C loops=true) (hD:Dr w a cap C gF gT) (hG1:G.length<=16) (hG:GonAt w bG G) (hL:takL C loops G<=16):
    Calls Try.prog 109 #[drV a cap C loops gF cF gT cT, .slice (some ⟨bG, 0, none⟩) G.length cG] w fun e w' => ∃ a2 c2, e = .returned (.agg #[.slice a2 (takC C G).length c2, .int .i64 (takL C loops G)]) ∧ w'.ownsRow w.heap.size 71 5 (.slice a2 (takC C G).length c2) (takC C G).length (QQ4 (takC C G)) ∧ Below w.heap.size w w' := by
 have HW:Hid (∀ W,Below w.heap.size w W->Calls Try.prog 124 #[drV a cap C loops gF cF gT cT,.func (.func 97) #[drV a cap C loops gF cF gT cT] #[],.slice (some ⟨bG,0,none⟩) G.length cG] W fun e w'=>∃ a2 c2,e=.returned (.agg #[.slice a2 (takC C G).length c2,.int .i64 (takL C loops G)])/\w'.ownsRow W.heap.size 71 5 (.slice a2 (takC C G).length c2) (takC C G).length (QQ4 (takC C G))/\Below W.heap.size W w'):=fun W hW=>
  (without_ahead a cap C loops gF cF gT cT bG cG G W hm (hD.on hW) hG1 (hG.on hW)).mono fun e w' h=>by
   obtain⟨v,h1,h2,h3⟩:=h
   obtain⟨a2,c2,rfl⟩:=QX5 h2
   exact⟨a2,c2,h1,h2,h3⟩
 generalize takC C G=D at HW ⊢
 generalize takL C loops G=lo at HW hL ⊢
 obtain⟨Y,hY⟩:∃ Y,(w.alloc (.cells #[.slice a C.length cap,.int .i64 loops,.slice (some ⟨gF,0,none⟩) (2*C.length+1) cF,.slice (some ⟨gT,0,none⟩) (2*C.length+1) cT] 63)).alloc (.cells #[.slice none 0 0,.int .i64 0] 24)=Y:=⟨_,rfl⟩
 have hBY:Below w.heap.size w Y:=by rw[<-hY];exact((Below.refl _ _).alloc (Nat.le_refl _) _).alloc (by simp) _
 have HBY:=QQ1 hBY
 have HT0:Hid (Y.heap[w.heap.size]?=some (.cells #[.slice a C.length cap,.int .i64 loops,.slice (some ⟨gF,0,none⟩) (2*C.length+1) cF,.slice (some ⟨gT,0,none⟩) (2*C.length+1) cT] 63 (0,0))):=(by rw[<-hY];exact alloc_old (alloc_at rfl):Y.heap[w.heap.size]?=_)
 have HT1:Hid (Y.heap[w.heap.size+1]?=some (.cells #[.slice none 0 0,.int .i64 0] 24 (0,0))):=(by rw[<-hY];exact alloc_at (by simp):Y.heap[w.heap.size+1]?=_)
 have hsY:w.heap.size+2<=Y.heap.size:=by rw[<-hY];simp
 have HWY:=QQ1 (HW.out Y hBY)
 unfold drV at HWY ⊢
 have hL2:lo<=16:=hL
 have HY:=QQ1 hY
 have b0:Y.cell? ⟨w.heap.size,0,none⟩=some (.slice a C.length cap):=QQ0 HT0.out rfl
 have b1:Y.cell? ⟨w.heap.size,1,none⟩=some (.int .i64 loops):=QQ0 HT0.out rfl
 have b2:Y.cell? ⟨w.heap.size,2,none⟩=some (.slice (some ⟨gF,0,none⟩) (2*C.length+1) cF):=QQ0 HT0.out rfl
 have b3:Y.cell? ⟨w.heap.size,3,none⟩=some (.slice (some ⟨gT,0,none⟩) (2*C.length+1) cT):=QQ0 HT0.out rfl
 clear HW hm hD hG1 hG hBY
 go_enter Try.func109,Try.ntmps109
 go_wp2_with (first
  | (go_at_call 124; refine HWY.out.mono ?_; rintro e9 w3 ⟨a2, c2, rfl, ho3, hb3⟩
     have HO3:=QQ1 ho3
     have HB3:=QQ1 hb3
     have hs3:=hb3.size
     have q1:=(hb3.block _ (by omega)).trans HT1.out
     have HQ1:=QQ1 q1
     have k0:w3.cell? ⟨w.heap.size+1,0,none⟩=some (.slice none 0 0):=QQ0 q1 rfl
     have k1:w3.cell? ⟨w.heap.size+1,1,none⟩=some (.int .i64 0):=QQ0 q1 rfl
     have f0:w3.frozen? ⟨w.heap.size+1,0,none⟩=false:=QQ2 q1
     have f1:w3.frozen? ⟨w.heap.size+1,1,none⟩=false:=QQ2 q1
     have lb:w.heap.size+1<w3.heap.size:=by omega
     clear ho3 hb3 q1)
  |(go_at_call 41;refine(QZ3 2 _).mono ?_;rintro e9 w4 ⟨rfl,e4⟩;obtain rfl:=e4.symm))
 have hZ:=alloc_old (o:=.cells #[.slice a2 D.length c2,.int .i64 lo] 24) (st2D (a:=.slice a2 D.length c2) (b:=.int .i64 lo) HQ1.out)
 have x0:=QQ0 (i:=0) (v:=.slice a2 D.length c2) hZ rfl
 have x1:=QQ0 (i:=1) (v:=.int .i64 lo) hZ rfl
 refine bodyPost_ret (v:=.agg #[.slice a2 D.length c2,.int .i64 lo]) (by simp[results,Try.results109,go_sem,x0,x1]) rfl ⟨a2,c2,rfl,?_,?_⟩
 · exact QX4 ((own_two HO3.out (by omega) _ _).alloc _) (by omega)
 · exact(((HBY.out.trans (HB3.out.mono (by omega))).setCell (p:=⟨w.heap.size+1,0,none⟩) (by simp) _).setCell (p:=⟨w.heap.size+1,1,none⟩) (by simp) _).alloc (by simp;omega) _
theorem without_no (a:Option Addr) (cap:Nat) (C:List Cr) (loops:Int) (gF cF gT cT:Nat) (bG cG:Nat) (G:List Nat) (w:World) (hm:mayD C loops=true) (hD:Dr w a cap C gF gT) (hG1:G.length<=16) (hG:GonAt w bG G) (hL:16<takL C loops G):
    Calls Try.prog 109 #[drV a cap C loops gF cF gT cT, .slice (some ⟨bG, 0, none⟩) G.length cG] w fun e w' => e = .panicked (QZ7 2) ∧ Below w.heap.size w w' := by
 have HW:Hid (∀ W,Below w.heap.size w W->Calls Try.prog 124 #[drV a cap C loops gF cF gT cT,.func (.func 97) #[drV a cap C loops gF cF gT cT] #[],.slice (some ⟨bG,0,none⟩) G.length cG] W fun e w'=>∃ a2 c2,e=.returned (.agg #[.slice a2 (takC C G).length c2,.int .i64 (takL C loops G)])/\w'.ownsRow W.heap.size 71 5 (.slice a2 (takC C G).length c2) (takC C G).length (QQ4 (takC C G))/\Below W.heap.size W w'):=fun W hW=>
  (without_ahead a cap C loops gF cF gT cT bG cG G W hm (hD.on hW) hG1 (hG.on hW)).mono fun e w' h=>by
   obtain⟨v,h1,h2,h3⟩:=h
   obtain⟨a2,c2,rfl⟩:=QX5 h2
   exact⟨a2,c2,h1,h2,h3⟩
 generalize takC C G=D at HW
 generalize takL C loops G=lo at HW hL
 obtain⟨Y,hY⟩:∃ Y,(w.alloc (.cells #[.slice a C.length cap,.int .i64 loops,.slice (some ⟨gF,0,none⟩) (2*C.length+1) cF,.slice (some ⟨gT,0,none⟩) (2*C.length+1) cT] 63)).alloc (.cells #[.slice none 0 0,.int .i64 0] 24)=Y:=⟨_,rfl⟩
 have hBY:Below w.heap.size w Y:=by rw[<-hY];exact((Below.refl _ _).alloc (Nat.le_refl _) _).alloc (by simp) _
 have HBY:=QQ1 hBY
 have HT0:Hid (Y.heap[w.heap.size]?=some (.cells #[.slice a C.length cap,.int .i64 loops,.slice (some ⟨gF,0,none⟩) (2*C.length+1) cF,.slice (some ⟨gT,0,none⟩) (2*C.length+1) cT] 63 (0,0))):=(by rw[<-hY];exact alloc_old (alloc_at rfl):Y.heap[w.heap.size]?=_)
 have HT1:Hid (Y.heap[w.heap.size+1]?=some (.cells #[.slice none 0 0,.int .i64 0] 24 (0,0))):=(by rw[<-hY];exact alloc_at (by simp):Y.heap[w.heap.size+1]?=_)
 have hsY:w.heap.size+2<=Y.heap.size:=by rw[<-hY];simp
 have HWY:=QQ1 (HW.out Y hBY)
 unfold drV at HWY ⊢
 have d1:decide (lo<=16)=false:=decide_eq_false (by omega)
 have HY:=QQ1 hY
 have b0:Y.cell? ⟨w.heap.size,0,none⟩=some (.slice a C.length cap):=QQ0 HT0.out rfl
 have b1:Y.cell? ⟨w.heap.size,1,none⟩=some (.int .i64 loops):=QQ0 HT0.out rfl
 have b2:Y.cell? ⟨w.heap.size,2,none⟩=some (.slice (some ⟨gF,0,none⟩) (2*C.length+1) cF):=QQ0 HT0.out rfl
 have b3:Y.cell? ⟨w.heap.size,3,none⟩=some (.slice (some ⟨gT,0,none⟩) (2*C.length+1) cT):=QQ0 HT0.out rfl
 clear HW hm hD hG1 hG hBY
 go_enter Try.func109,Try.ntmps109
 go_wp2_with (first
  | (go_at_call 41; try rw [d1]
     refine(QK0 2 _).mono ?_;rintro e9 w4 ⟨rfl,e4⟩;obtain rfl:=e4.symm)
  | (go_at_call 124; refine HWY.out.mono ?_; rintro e9 w3 ⟨a2, c2, rfl, ho3, hb3⟩
     have HO3:=QQ1 ho3
     have HB3:=QQ1 hb3
     have hs3:=hb3.size
     have q1:=(hb3.block _ (by omega)).trans HT1.out
     have HQ1:=QQ1 q1
     have k0:w3.cell? ⟨w.heap.size+1,0,none⟩=some (.slice none 0 0):=QQ0 q1 rfl
     have k1:w3.cell? ⟨w.heap.size+1,1,none⟩=some (.int .i64 0):=QQ0 q1 rfl
     have f0:w3.frozen? ⟨w.heap.size+1,0,none⟩=false:=QQ2 q1
     have f1:w3.frozen? ⟨w.heap.size+1,1,none⟩=false:=QQ2 q1
     have lb:w.heap.size+1<w3.heap.size:=by omega
     clear ho3 hb3 q1))
 exact⟨rfl,rfl,(HBY.out.trans (HB3.out.mono (by omega))).alloc (by omega) _⟩
end Go.Proofs.Ytagaajlbkfkaiaa
/- Moves: the walk of bench.uncurl. Made by genmw2.py. -/
namespace Go.Proofs.Ytagaajlbkfkaiaa
open Go.RowKit
set_option maxHeartbeats 4000000
set_option maxRecDepth 100000
def cuB (C:List Cr) (k:Nat):Bool:=(List.range (2*C.length+1)).any fun x=>decide (1<=x)&&crlB C k x
theorem cuB_iff (C:List Cr) (k:Nat):cuB C k=true↔∃ x,1<=x/\x<=2*C.length/\crlB C k x=true:=by
 unfold cuB
 rw[List.any_eq_true]
 constructor
 · rintro⟨x,h1,h2⟩
   rw[Bool.and_eq_true,decide_eq_true_eq]at h2
   exact⟨x,h2.1,by have:=List.mem_range.1 h1;omega,h2.2⟩
 · rintro⟨x,h1,h2,h3⟩
   exact⟨x,List.mem_range.2 (by omega),by rw[h3,decide_eq_true h1];rfl⟩
theorem curled_is (a:Option Addr) (cap:Nat) (C:List Cr) (loops:Int) (gF cF gT cT:Nat) (k:Nat) (w:World) (hm:mayD C loops=true) (hd:Dr w a cap C gF gT):
    Calls Try.prog 108 #[drV a cap C loops gF cF gT cT,.int .i64 (k:Nat)] w fun e w'=>e=.returned (.bool (cuB C k))/\Below w.heap.size w w':=curled_any a cap C loops gF cF gT cT k (cuB C k) w hm hd (cuB_iff C k)
theorem uncurl_no1 (a:Option Addr) (cap:Nat) (C:List Cr) (loops:Int) (gF cF gT cT:Nat) (k x y ua va:Int) (ub vb ov:Bool) (w:World) (h:crB C x=false):
    Calls Try.prog 89 #[drV a cap C loops gF cF gT cT, mvV k x y ua ub va vb ov] w fun e w' => e = .panicked (QZ7 3) ∧ Below w.heap.size w w' := by
 unfold mvV
 obtain⟨Y,hY,hBY,hTY,hsY⟩:=bm_ex w a cap C loops gF cF gT cT k x y ua va ub vb ov
 have HBY:=QQ1 hBY
 have HCE:=QQ1 (bm_ce hTY)
 clear hBY hTY
 have HHC:=QQ1 (QJ1 a cap C loops gF cF gT cT x Y)
 rw[h]at HHC
 unfold drV at HHC ⊢
 have cpl0:=QX3 (HCE.out Y (Below.refl _ _))
 have pZ:=QQ1 (HCE.out Y (Below.refl _ _)).1.2.2
 clear h
 go_enter Try.func89,Try.ntmps89
 go_wp2_with (first
  |(go_at_call 41;refine(QK0 3 _).mono ?_;rintro e9 w4 ⟨rfl,e4⟩;obtain rfl:=e4.symm)
  | (go_at_call 107; refine HHC.out.mono ?_; rintro e9 w3 ⟨rfl, hb3⟩
     have HB3:=QQ1 hb3
     clear hb3))
 exact⟨rfl,rfl,HBY.out.trans (HB3.out.mono (by omega))⟩
theorem uncurl_no2 (a:Option Addr) (cap:Nat) (C:List Cr) (loops:Int) (gF cF gT cT:Nat) (k y ua va:Int) (x:Nat) (ub vb ov:Bool) (w:World) (hm:mayD C loops=true) (hd:Dr w a cap C gF gT) (hx:x<C.length) (h:cuB C x=false):
    Calls Try.prog 89 #[drV a cap C loops gF cF gT cT, mvV k (x : Nat) y ua ub va vb ov] w fun e w' => e = .panicked (QZ7 8) ∧ Below w.heap.size w w' := by
 unfold mvV
 obtain⟨Y,hY,hBY,hTY,hsY⟩:=bm_ex w a cap C loops gF cF gT cT k (x:Nat) y ua va ub vb ov
 have HBY:=QQ1 hBY
 have HCE:=QQ1 (bm_ce hTY)
 clear hBY hTY
 have HHC:=QQ1 (QJ1 a cap C loops gF cF gT cT (x:Nat) Y)
 have hc:crB C (x:Nat)=true:=by unfold crB;simp;omega
 rw[hc]at HHC
 have HCU:Hid (∀ W,Below Y.heap.size Y W->Calls Try.prog 108 #[drV a cap C loops gF cF gT cT,.int .i64 (x:Nat)] W fun e w'=>e=.returned (.bool false)/\Below W.heap.size W w'):=fun W hW=>by
  have:=curled_is a cap C loops gF cF gT cT x W hm (hd.on (HBY.out.trans (hW.mono (by omega))))
  rw[h]at this
  exact this
 unfold drV at HHC HCU ⊢
 have cpl0:=QX3 (HCE.out Y (Below.refl _ _))
 have pZ:=QQ1 (HCE.out Y (Below.refl _ _)).1.2.2
 clear h hc hm hd
 go_enter Try.func89,Try.ntmps89
 go_upto_region 2 with(first
  |(go_at_call 41;refine(QZ3 3 _).mono ?_;rintro e9 w4 ⟨rfl,e4⟩;obtain rfl:=e4.symm)
  | (go_at_call 107; refine HHC.out.mono ?_; rintro e9 w3 ⟨rfl, hb3⟩
     have HB3:=QQ1 hb3
     have cql0:=QX3 (HCE.out w3 (hb3))
     have qZ:=QQ1 (HCE.out w3 (hb3)).1.2.2
     clear hb3))
 go_wp2_with (first
  |(go_at_call 41;refine(QK0 8 _).mono ?_;rintro e9 w4 ⟨rfl,e4⟩;obtain rfl:=e4.symm)
  | (go_at_call 108; refine (HCU.out _ HB3.out).mono ?_; rintro e9 w5 ⟨rfl, hb5⟩
     have HB5:=QQ1 (HB3.out.trans (hb5.mono HB3.out.size))
     clear hb5))
 exact⟨rfl,rfl,HBY.out.trans (HB5.out.mono (by omega))⟩
theorem uncurl_no3 (a:Option Addr) (cap:Nat) (C:List Cr) (loops:Int) (gF cF gT cT:Nat) (k y ua va:Int) (x:Nat) (ub vb ov:Bool) (w:World) (hm:mayD C loops=true) (hd:Dr w a cap C gF gT) (hx:x<C.length) (h:cuB C x=true) (hL:16<takL C loops [x]):
    Calls Try.prog 89 #[drV a cap C loops gF cF gT cT, mvV k (x : Nat) y ua ub va vb ov] w fun e w' => e = .panicked (QZ7 2) ∧ Below w.heap.size w w' := by
 unfold mvV
 obtain⟨Y,hY,hBY,hTY,hsY⟩:=bm_ex w a cap C loops gF cF gT cT k (x:Nat) y ua va ub vb ov
 have HBY:=QQ1 hBY
 have HCE:=QQ1 (bm_ce hTY)
 clear hBY hTY
 have HHC:=QQ1 (QJ1 a cap C loops gF cF gT cT (x:Nat) Y)
 have hc:crB C (x:Nat)=true:=by unfold crB;simp;omega
 rw[hc]at HHC
 have HCU:Hid (∀ W,Below Y.heap.size Y W->Calls Try.prog 108 #[drV a cap C loops gF cF gT cT,.int .i64 (x:Nat)] W fun e w'=>e=.returned (.bool true)/\Below W.heap.size W w'):=fun W hW=>by
  have:=curled_is a cap C loops gF cF gT cT x W hm (hd.on (HBY.out.trans (hW.mono (by omega))))
  rw[h]at this
  exact this
 have HWI:Hid (∀ (W:World) (g cG:Nat),Below Y.heap.size Y W->GonAt W g [x]->Calls Try.prog 109 #[drV a cap C loops gF cF gT cT,.slice (some ⟨g,0,none⟩) 1 cG] W fun e w'=>e=.panicked (QZ7 2)/\Below W.heap.size W w'):=fun W g cG hW hg=>by
  have:=without_no a cap C loops gF cF gT cT g cG [x] W hm (hd.on (HBY.out.trans (hW.mono (by omega)))) (by simp) hg hL
  exact this
 unfold drV at HHC HCU HWI ⊢
 have cpl0:=QX3 (HCE.out Y (Below.refl _ _))
 have pZ:=QQ1 (HCE.out Y (Below.refl _ _)).1.2.2
 clear h hc hm hd hL
 go_enter Try.func89,Try.ntmps89
 go_upto_region 2 with(first
  |(go_at_call 41;refine(QZ3 3 _).mono ?_;rintro e9 w4 ⟨rfl,e4⟩;obtain rfl:=e4.symm)
  | (go_at_call 107; refine HHC.out.mono ?_; rintro e9 w3 ⟨rfl, hb3⟩
     have HB3:=QQ1 hb3
     have cql0:=QX3 (HCE.out w3 (hb3))
     have qZ:=QQ1 (HCE.out w3 (hb3)).1.2.2
     clear hb3))
 go_upto_region 3 with(first
  |(go_at_call 41;refine(QZ3 8 _).mono ?_;rintro e9 w4 ⟨rfl,e4⟩;obtain rfl:=e4.symm)
  | (go_at_call 108; refine (HCU.out _ HB3.out).mono ?_; rintro e9 w5 ⟨rfl, hb5⟩
     have HB5:=QQ1 (HB3.out.trans (hb5.mono HB3.out.size))
     have csl0:=QX3 (HCE.out w5 (HB5.out))
     have sZ:=QQ1 (HCE.out w5 (HB5.out)).1.2.2
     clear hb5))
 have hs5:=HB5.out.size
 have HG6:Hid (GonAt (w5.alloc (.cells #[.int .i64 (x:Nat)] 3)) w5.heap.size [x]):=⟨by simp,fun i hi=>by
  obtain rfl:i=0:=by simpa using hi
  exact QQ0 (alloc_at rfl) rfl⟩
 have HB6:Hid (Below Y.heap.size Y (w5.alloc (.cells #[.int .i64 (x:Nat)] 3))):=HB5.out.alloc hs5 _
 go_wp2_with (go_at_call 109;refine(HWI.out _ _ _ HB6.out HG6.out).mono ?_;rintro e9 w7 ⟨rfl,hb7⟩)
 exact⟨rfl,rfl,HBY.out.trans ((HB6.out.trans (hb7.mono HB6.out.size)).mono (by omega))⟩
theorem uncurl_yes (a:Option Addr) (cap:Nat) (C:List Cr) (loops:Int) (gF cF gT cT:Nat) (k y ua va:Int) (x:Nat) (ub vb ov:Bool) (w:World) (hm:mayD C loops=true) (hd:Dr w a cap C gF gT) (hx:x<C.length) (h:cuB C x=true) (hL:takL C loops [x]<=16):
    Calls Try.prog 89 #[drV a cap C loops gF cF gT cT, mvV k (x : Nat) y ua ub va vb ov] w fun e w' => ∃ a2 c2, e = .returned (.agg #[.slice a2 (takC C [x]).length c2, .int .i64 (takL C loops [x])]) ∧ w'.ownsRow w.heap.size 71 5 (.slice a2 (takC C [x]).length c2) (takC C [x]).length (QQ4 (takC C [x])) ∧ Below w.heap.size w w' := by
 unfold mvV
 obtain⟨Y,hY,hBY,hTY,hsY⟩:=bm_ex w a cap C loops gF cF gT cT k (x:Nat) y ua va ub vb ov
 have HBY:=QQ1 hBY
 have HCE:=QQ1 (bm_ce hTY)
 clear hBY hTY
 have HHC:=QQ1 (QJ1 a cap C loops gF cF gT cT (x:Nat) Y)
 have hc:crB C (x:Nat)=true:=by unfold crB;simp;omega
 rw[hc]at HHC
 have HCU:Hid (∀ W,Below Y.heap.size Y W->Calls Try.prog 108 #[drV a cap C loops gF cF gT cT,.int .i64 (x:Nat)] W fun e w'=>e=.returned (.bool true)/\Below W.heap.size W w'):=fun W hW=>by
  have:=curled_is a cap C loops gF cF gT cT x W hm (hd.on (HBY.out.trans (hW.mono (by omega))))
  rw[h]at this
  exact this
 obtain⟨D,hD⟩:∃ D,takC C [x]=D:=⟨_,rfl⟩
 obtain⟨lo,hlo⟩:∃ l,takL C loops [x]=l:=⟨_,rfl⟩
 have HWI:Hid (∀ (W:World) (g cG:Nat),Below Y.heap.size Y W->GonAt W g [x]->Calls Try.prog 109 #[drV a cap C loops gF cF gT cT,.slice (some ⟨g,0,none⟩) 1 cG] W fun e w'=>∃ a2 c2,e=.returned (.agg #[.slice a2 D.length c2,.int .i64 lo])/\w'.ownsRow W.heap.size 71 5 (.slice a2 D.length c2) D.length (QQ4 D)/\Below W.heap.size W w'):=fun W g cG hW hg=>by
  have:=without_yes a cap C loops gF cF gT cT g cG [x] W hm (hd.on (HBY.out.trans (hW.mono (by omega)))) (by simp) hg hL
  rw[hD,hlo]at this
  exact this
 rw[hD,hlo]
 unfold drV at HHC HCU HWI ⊢
 have cpl0:=QX3 (HCE.out Y (Below.refl _ _))
 have pZ:=QQ1 (HCE.out Y (Below.refl _ _)).1.2.2
 clear h hc hm hd hL
 go_enter Try.func89,Try.ntmps89
 go_upto_region 2 with(first
  |(go_at_call 41;refine(QZ3 3 _).mono ?_;rintro e9 w4 ⟨rfl,e4⟩;obtain rfl:=e4.symm)
  | (go_at_call 107; refine HHC.out.mono ?_; rintro e9 w3 ⟨rfl, hb3⟩
     have HB3:=QQ1 hb3
     have cql0:=QX3 (HCE.out w3 (hb3))
     have qZ:=QQ1 (HCE.out w3 (hb3)).1.2.2
     clear hb3))
 go_upto_region 3 with(first
  |(go_at_call 41;refine(QZ3 8 _).mono ?_;rintro e9 w4 ⟨rfl,e4⟩;obtain rfl:=e4.symm)
  | (go_at_call 108; refine (HCU.out _ HB3.out).mono ?_; rintro e9 w5 ⟨rfl, hb5⟩
     have HB5:=QQ1 (HB3.out.trans (hb5.mono HB3.out.size))
     have csl0:=QX3 (HCE.out w5 (HB5.out))
     have sZ:=QQ1 (HCE.out w5 (HB5.out)).1.2.2
     clear hb5))
 have hs5:=HB5.out.size
 have HG6:Hid (GonAt (w5.alloc (.cells #[.int .i64 (x:Nat)] 3)) w5.heap.size [x]):=⟨by simp,fun i hi=>by
  obtain rfl:i=0:=by simpa using hi
  exact QQ0 (alloc_at rfl) rfl⟩
 have HB6:Hid (Below Y.heap.size Y (w5.alloc (.cells #[.int .i64 (x:Nat)] 3))):=HB5.out.alloc hs5 _
 go_wp2_with (go_at_call 109;refine(HWI.out _ _ _ HB6.out HG6.out).mono ?_;rintro e9 w7 ⟨a2,c2,rfl,ho7,hb7⟩
              have HO7:=QQ1 ho7
              have HB7:=QQ1 (HB6.out.trans (hb7.mono HB6.out.size))
              have hs7:=hb7.size
              have ctl0:=QX3 (HCE.out w7 (HB7.out))
              have tZ:=QQ1 (HCE.out w7 (HB7.out)).1.2.2
              clear ho7 hb7)
 have hZ:=st2D (a:=.slice a2 D.length c2) (b:=.int .i64 lo) tZ.out
 have x0:=QQ0 (i:=0) (v:=.slice a2 D.length c2) hZ rfl
 have x1:=QQ0 (i:=1) (v:=.int .i64 lo) hZ rfl
 refine bodyPost_ret (v:=.agg #[.slice a2 D.length c2,.int .i64 lo]) (by simp[results,Try.results89,go_sem,x0,x1]) rfl ⟨a2,c2,rfl,?_,?_⟩
 · exact QX4 (own_two HO7.out (by have:=HB6.out.size;simp at this ⊢;omega) _ _) (by have:=HB6.out.size;simp at this ⊢;omega)
 · exact((HBY.out.trans (HB7.out.mono (by omega))).setCell (p:=⟨w.heap.size+1+1,0,none⟩) (by simp only;omega) _).setCell (p:=⟨w.heap.size+1+1,1,none⟩) (by simp only;omega) _
end Go.Proofs.Ytagaajlbkfkaiaa
/- Moves: mathematics between the program and the document's answer: curls, layers of a triangle, darts on one face, the crossings of a push. -/
namespace Go.Proofs.Ytagaajlbkfkaiaa
theorem en_spot {C:List Cr} {loops:Int} (hm:mayD C loops=true) (k s:Nat) (hk:k<C.length) (hs:s<4):∃ x:Nat,1<=x/\x<=2*C.length/\(C.getD k Cr.none).arc s=(x:Int)/\enC C x ((C.getD k Cr.none).comes s)=k/\enS C x ((C.getD k Cr.none).comes s)=s:=by
 obtain⟨h1,h2,-⟩:=en_one hm k s hk hs
 have e:(C.getD k Cr.none).arc s=((((C.getD k Cr.none).arc s).toNat:Nat):Int):=by omega
 have h:=end_one hm _ h1 h2 _ k s hk hs e rfl
 refine⟨_,h1,h2,e,?_,?_⟩
 · unfold enC
   rw[h]
   simp
 · unfold enS
   rw[h]
   simp
theorem curl_same {C:List Cr} {loops:Int} (hm:mayD C loops=true) (k:Nat) (hk:k<C.length):caB C k=cuB C k:=by
 rw[Bool.eq_iff_iff,cuB_iff]
 constructor
 · intro h
   unfold caB at h
   rw[List.any_eq_true]at h
   obtain⟨s,hs,e⟩:=h
   have hs4:s<4:=List.mem_range.1 hs
   have e:=of_decide_eq_true e
   obtain⟨x,h1,h2,e1,e2,e3⟩:=en_spot hm k s hk hs4
   obtain⟨y,-,-,f1,f2,f3⟩:=en_spot hm k ((s+1)%4) hk (by omega)
   have hxy:y=x:=by omega
   rw[hxy]at f2 f3
   refine⟨x,h1,h2,?_⟩
   unfold crlB
   simp only[Bool.and_eq_true,decide_eq_true_eq,Bool.not_eq_true',decide_eq_false_iff_not]
   cases p:(C.getD k Cr.none).comes s<;>cases q:(C.getD k Cr.none).comes ((s+1)%4)<;>rw[p]at e2 e3<;>rw[q]at f2 f3
   · exfalso
     omega
   · exact⟨⟨e2,f2⟩,by omega⟩
   · exact⟨⟨f2,e2⟩,by omega⟩
   · exfalso
     omega
 · rintro⟨x,h1,h2,h⟩
   unfold crlB at h
   simp only[Bool.and_eq_true,decide_eq_true_eq,Bool.not_eq_true',decide_eq_false_iff_not]at h
   obtain⟨⟨a1,a2⟩,a3⟩:=h
   obtain⟨-,-,b3,b4,b5⟩:=QJ9 hm x false h1 h2
   obtain⟨-,-,c3,c4,c5⟩:=QJ9 hm x true h1 h2
   rw[a1]at b4 b5
   rw[a2]at c4 c5
   unfold caB
   rw[List.any_eq_true]
   have hne:enS C x false≠enS C x true:=fun e=>by
    rw[e,c5]at b5
    exact absurd b5 (by simp)
   have hor:enS C x true=(enS C x false+1)%4∨enS C x false=(enS C x true+1)%4:=by omega
   rcases hor with e|e
   · exact⟨enS C x false,List.mem_range.2 b3,decide_eq_true (by rw[<-e,b4,c4])⟩
   · exact⟨enS C x true,List.mem_range.2 c3,decide_eq_true (by rw[<-e,b4,c4])⟩
theorem fd_spot {C:List Cr} {loops:Int} (hm:mayD C loops=true) (j:Nat) (h1:1<=j) (h2:j<=4*C.length):enC C (dA (fd C j)) (dB (fd C j))=dC C j/\enS C (dA (fd C j)) (dB (fd C j))=(dS C j+3)%4:=by
 obtain⟨a1,a2,a3,a4⟩:=fd_may hm j h1 h2
 obtain⟨-,b2,b3⟩:=d_may hm j h1 h2
 have hr:=dA_le a3 a4
 have h:=end_one hm _ hr.1 hr.2 _ (dC C j) ((dS C j+3)%4) b2 (by omega) a1 a2
 constructor
 · unfold enC
   rw[h]
   simp
 · unfold enS
   rw[h]
   exact Int.toNat_natCast _
theorem hgt_dart (C:List Cr) (j:Nat):hgt C (dA j)=dS C j%2+enS C (dA j) (dB j)%2:=by
 unfold hgt dS
 cases dB j with
 |false=>rfl
 |true=>exact Nat.add_comm _ _
theorem hgt_le (C:List Cr) (x:Nat):hgt C x<3:=by
 unfold hgt
 omega
theorem tri_sum {C:List Cr} {loops:Int} (hm:mayD C loops=true) {x y z:Nat} (hx:1<=x/\x<=4*C.length) (hy:1<=y/\y<=4*C.length) (hz:1<=z/\z<=4*C.length) (e1:y=fd C x) (e2:z=fd C y) (e3:x=fd C z):hgt C (dA x)+hgt C (dA y)+hgt C (dA z)=3:=by
 have f1:=(fd_spot hm x hx.1 hx.2).2
 have f2:=(fd_spot hm y hy.1 hy.2).2
 have f3:=(fd_spot hm z hz.1 hz.2).2
 rw[<-e1]at f1
 rw[<-e2]at f2
 rw[<-e3]at f3
 rw[hgt_dart,hgt_dart,hgt_dart,f1,f2,f3]
 omega
theorem top_hgt (C:List Cr) (x:Nat):(hiB C x false&&hiB C x true)=decide (hgt C x=2):=by
 unfold hiB hgt
 rw[Bool.eq_iff_iff]
 simp only[Bool.and_eq_true,decide_eq_true_eq]
 omega
theorem bot_hgt (C:List Cr) (x:Nat):(!hiB C x false&&!hiB C x true)=decide (hgt C x=0):=by
 unfold hiB hgt
 rw[Bool.eq_iff_iff]
 simp only[Bool.and_eq_true,Bool.not_eq_true',decide_eq_true_eq,decide_eq_false_iff_not]
 omega
def cnt3 (q a b c:Nat):Nat:=(if a=q then 1 else 0)+(if b=q then 1 else 0)+(if c=q then 1 else 0)
theorem tri_nums:∀ a,a<3->∀ b,b<3->∀ c,c<3->a+b+c=3->((decide (a=2)||(decide (b=2)||(decide (c=2)||false)))&&(decide (a=0)||(decide (b=0)||(decide (c=0)||false))))=((decide (cnt3 0 a b c=1)&&decide (cnt3 1 a b c=1))&&decide (cnt3 2 a b c=1)):=by decide
theorem tri_same {C:List Cr} {loops:Int} (hm:mayD C loops=true) {x y z:Nat} (hx:1<=x/\x<=4*C.length) (hy:1<=y/\y<=4*C.length) (hz:1<=z/\z<=4*C.length) (e1:y=fd C x) (e2:z=fd C y) (e3:x=fd C z):
    (topB C [x,y,z]&&botB C [x,y,z])=((decide (cnt3 0 (hgt C (dA x)) (hgt C (dA y)) (hgt C (dA z))=1)&&decide (cnt3 1 (hgt C (dA x)) (hgt C (dA y)) (hgt C (dA z))=1))&&decide (cnt3 2 (hgt C (dA x)) (hgt C (dA y)) (hgt C (dA z))=1)):=by
 have h:=tri_nums _ (hgt_le C (dA x)) _ (hgt_le C (dA y)) _ (hgt_le C (dA z)) (tri_sum hm hx hy hz e1 e2 e3)
 unfold topB botB
 simp only[List.any_cons,List.any_nil,top_hgt,bot_hgt]
 exact h
theorem tri_ring {C:List Cr} {loops:Int} (hm:mayD C loops=true) {l:List Nat} (hl:l∈QQ3 C) (h3:l.length=3):∃ x y z,l=[x,y,z]/\(1<=x/\x<=4*C.length)/\(1<=y/\y<=4*C.length)/\(1<=z/\z<=4*C.length)/\y=fd C x/\z=fd C y/\x=fd C z:=by
 have hc:=(QV2 (QZ0 hm) (fun a b p q r s t=>fd_inj hm a b p q r s t) (4*C.length) (Nat.le_refl _)).2.2 l hl
 have hr:=(QV3 (QZ0 hm) (4*C.length) (Nat.le_refl _) l hl).2.2
 match l,h3 with
 |[x,y,z],_=>
  refine⟨x,y,z,rfl,hr x (by simp),hr y (by simp),hr z (by simp),?_,?_,?_⟩
  · exact hc.1 0 (by simp)
  · exact hc.1 1 (by simp)
  · exact hc.2.symm
def ofB (C:List Cr) (u v:Nat):Bool:=(QQ3 C).any fun l=>decide (u∈l)&&decide (v∈l)
theorem one_face {C:List Cr} (u v:Nat) (h1:1<=u) (h2:u<=4*C.length) (h3:1<=v) (h4:v<=4*C.length):ofB C u v=true↔fo C u=fo C v:=by
 unfold ofB
 rw[List.any_eq_true]
 constructor
 · rintro⟨l,hl,h⟩
   simp only[Bool.and_eq_true,decide_eq_true_eq]at h
   obtain⟨i,hi,e⟩:=List.getElem_of_mem hl
   have e2:(QQ3 C).getD i []=l:=by rw[List.getD_eq_getElem?_getD,List.getElem?_eq_getElem hi];exact e
   have a:=(pt_mem (L:=QQ3 C) (QJ2 (fd C) (4*C.length) u h1 h2) hi).1 (by rw[e2];exact h.1)
   have b:=(pt_mem (L:=QQ3 C) (QJ2 (fd C) (4*C.length) v h3 h4) hi).1 (by rw[e2];exact h.2)
   exact a.trans b.symm
 · intro e
   have hi:=fo_lt (C:=C) u h1 h2
   refine⟨(QQ3 C).getD (fo C u) [],?_,?_⟩
   · rw[List.getD_eq_getElem?_getD,List.getElem?_eq_getElem hi]
     exact List.getElem_mem hi
   · simp only[Bool.and_eq_true,decide_eq_true_eq]
     exact⟨(pt_mem (L:=QQ3 C) (QJ2 (fd C) (4*C.length) u h1 h2) hi).2 rfl,(pt_mem (L:=QQ3 C) (QJ2 (fd C) (4*C.length) v h3 h4) hi).2 e.symm⟩
def laidX (e n w s:Int) (north west standing:Bool):Cr:=
 if standing then(if west then⟨e,n,w,s,north⟩ else⟨w,s,e,n,!north⟩) else(if north then⟨s,e,n,w,!west⟩ else⟨n,w,s,e,west⟩)
theorem push_p (n ua va:Int) (ub vb ov:Bool):QZ1 (if ub then(2*n+1,2*n+2) else(ua,2*n+1)) (if vb then(va,2*n+3) else(2*n+3,2*n+4)) ov (ov==(ub==vb))=
    laidX (2*n+3) (2*n+1) (if vb then va else 2*n+4) (if ub then 2*n+2 else ua) (!ub) (!vb) ov:=by
 cases ub<;>cases vb<;>cases ov<;>rfl
theorem push_q (n ua va:Int) (ub vb ov:Bool):QZ1 (if ub then(ua,2*n+1) else(2*n+1,2*n+2)) (if vb then(2*n+3,2*n+4) else(va,2*n+3)) ov (!(ov==(ub==vb)))=
    laidX (if vb then 2*n+4 else va) (2*n+1) (2*n+3) (if ub then ua else 2*n+2) ub (!vb) ov:=by
 cases ub<;>cases vb<;>cases ov<;>rfl
theorem putF_comm (F:Nat->Option Int) (s t:Nat) (v w:Int) (h:s≠t):putF (putF F s v) t w=putF (putF F t w) s v:=by
 funext z
 unfold putF
 by_cases h1:z=t
 · have h2:¬ z=s:=fun e=>h (e.symm.trans h1)
   rw[if_pos h1,if_neg h2,if_pos h1]
 · by_cases h2:z=s
   · rw[if_neg h1,if_pos h2,if_pos h2]
   · rw[if_neg h1,if_neg h2,if_neg h2,if_neg h1]
def slF (C:List Cr) (F:Nat->Option Int) (x:Nat):Nat->Option Int:=
 putF (putF (putF (putF F (4*enC C x false+4+(enS C x false+2)%4) (x:Int)) (4*enC C x false+4+enS C x false) ((C.getD (enC C x true) Cr.none).arc ((enS C x true+2)%4))) (4*enC C x true+4+enS C x true) ((C.getD (enC C x false) Cr.none).arc ((enS C x false+2)%4))) (4*enC C x true+4+(enS C x true+2)%4) (x:Int)
def slL (C D:List Cr) (x:Nat):List Cr:=
 setL (setL (setL (setL D (enC C x true) (enS C x true) ((C.getD (enC C x false) Cr.none).arc ((enS C x false+2)%4))) (enC C x true) ((enS C x true+2)%4) (x:Int)) (enC C x false) ((enS C x false+2)%4) (x:Int)) (enC C x false) (enS C x false) ((C.getD (enC C x true) Cr.none).arc ((enS C x true+2)%4))
theorem slL_len (C D:List Cr) (x:Nat):(slL C D x).length=D.length:=by
 unfold slL
 rw[QK8,QK8,QK8,QK8]
theorem slide_spots {C:List Cr} {loops:Int} (hm:mayD C loops=true) (F:Nat->Option Int) (x:Nat) (h1:1<=x) (h2:x<=2*C.length) (hne:enC C x false≠enC C x true):relN (slF C F x) C C.length=slL C (relN F C C.length) x:=by
 obtain⟨-,a2,a3,-,-⟩:=QJ9 hm x false h1 h2
 obtain⟨-,b2,b3,-,-⟩:=QJ9 hm x true h1 h2
 unfold slF slL
 rw[putF_comm _ (4*enC C x false+4+enS C x false) (4*enC C x true+4+enS C x true) _ _ (by omega),
  putF_comm _ (4*enC C x false+4+(enS C x false+2)%4) (4*enC C x true+4+enS C x true) _ _ (by omega),
  putF_comm _ (4*enC C x false+4+enS C x false) (4*enC C x true+4+(enS C x true+2)%4) _ _ (by omega),
  putF_comm _ (4*enC C x false+4+(enS C x false+2)%4) (4*enC C x true+4+(enS C x true+2)%4) _ _ (by omega)]
 rw[relN_put _ _ _ _ _ _ a2 a3,relN_put _ _ _ _ _ _ a2 (by omega),relN_put _ _ _ _ _ _ b2 (by omega),relN_put _ _ _ _ _ _ b2 b3]
theorem tri_ne {C:List Cr} {loops:Int} (hm:mayD C loops=true) {x y:Nat} (hx:1<=x/\x<=4*C.length) (e1:y=fd C x) (hne:dC C x≠dC C y):enC C (dA y) false≠enC C (dA y) true:=by
 have f1:=(fd_spot hm x hx.1 hx.2).1
 rw[<-e1]at f1
 unfold dC at hne
 unfold dC at f1
 cases h:dB y with
 |false=>
  rw[h]at f1 hne
  rw[f1]
  exact hne
 |true=>
  rw[h]at f1 hne
  rw[f1]
  exact fun e=>hne e.symm
end Go.Proofs.Ytagaajlbkfkaiaa
/- The walk of ref.laid: a crossing told by the compass. Made by genme8.py. -/
namespace Go.Proofs.Ytagaajlbkfkaiaa
open Go.RowKit
end Go.Proofs.Ytagaajlbkfkaiaa
/- The walk of ref.takenOut. Made by genmt1.py. -/
namespace Go.Proofs.Ytagaajlbkfkaiaa
open Go.RowKit
end Go.Proofs.Ytagaajlbkfkaiaa
/- Takings: what may be taken out of a diagram, in their order, and the road of a diagram to a simple one: plain mathematics. -/
namespace Go.Proofs.Ytagaajlbkfkaiaa
open Go.RowKit
def okG (C:List Cr) (lo:Int):List Nat->Bool
 |[x]=>caB C x&&decide (takL C lo [x]<=16)
 |[x,y]=>(QQ3 C).any (jlR C x y)&&decide (takL C lo [x,y]<=16)
 |_=>false
def tkU (n:Nat):List (List Nat):=(List.range n).map fun x=>[x]
def tkR (x m:Nat):List (List Nat):=(List.range m).map fun j=>[x,x+1+j]
def tkP (n x:Nat):List (List Nat):=(List.range x).flatMap fun i=>tkR i (n-(i+1))
def tkA (n:Nat):List (List Nat):=tkU n++tkP n n
theorem mem_tkU {n:Nat} {G:List Nat}:G∈tkU n↔∃ x,x<n/\G=[x]:=by
 simp only[tkU,List.mem_map,List.mem_range]
 exact⟨fun⟨x,h,e⟩=>⟨x,h,e.symm⟩,fun⟨x,h,e⟩=>⟨x,h,e.symm⟩⟩
theorem mem_tkR {x m:Nat} {G:List Nat}:G∈tkR x m↔∃ y,x<y/\y<x+1+m/\G=[x,y]:=by
 simp only[tkR,List.mem_map,List.mem_range]
 constructor
 · rintro⟨j,h,rfl⟩
   exact⟨x+1+j,by omega,by omega,rfl⟩
 · rintro⟨y,h1,h2,rfl⟩
   exact⟨y-(x+1),by omega,by rw[show x+1+(y-(x+1))=y by omega]⟩
theorem mem_tkP {n i:Nat} {G:List Nat}:G∈tkP n i↔∃ x y,x<i/\x<y/\y<n/\G=[x,y]:=by
 simp only[tkP,List.mem_flatMap,List.mem_range,mem_tkR]
 constructor
 · rintro⟨x,h,y,h1,h2,rfl⟩
   exact⟨x,y,h,h1,by omega,rfl⟩
 · rintro⟨x,y,h,h1,h2,rfl⟩
   exact⟨x,h,y,h1,by omega,rfl⟩
theorem mem_tkA {n:Nat} {G:List Nat}:G∈tkA n↔(∃ x,x<n/\G=[x])∨∃ x y,x<y/\y<n/\G=[x,y]:=by
 simp only[tkA,List.mem_append,mem_tkU,mem_tkP]
 constructor
 · rintro(h|⟨x,y,h,h1,h2,rfl⟩)
   · exact Or.inl h
   · exact Or.inr ⟨x,y,h1,h2,rfl⟩
 · rintro(h|⟨x,y,h1,h2,rfl⟩)
   · exact Or.inl h
   · exact Or.inr ⟨x,y,by omega,h1,h2,rfl⟩
end Go.Proofs.Ytagaajlbkfkaiaa
/- Plain mathematics: what was laid on is taken out again, and the diagram is what it was, number by number. -/
namespace Go.Proofs.Ytagaajlbkfkaiaa
theorem cntB_false {P:Nat->Bool}:∀ k,(∀ u,1<=u->u<k->P u=false)->cntB P k=0
 |0,_=>rfl
 |k+1,h=>by
  rw[show cntB P (k+1)=cntB P k+(if 1<=k/\P k=true then 1 else 0) from rfl,cntB_false k fun u h1 h2=>h u h1 (by omega),if_neg]
  rintro⟨h1,h2⟩
  rw[h k h1 (by omega)]at h2
  cases h2
theorem cntB_true {P:Nat->Bool}:∀ k,(∀ u,1<=u->u<=k->P u=true)->cntB P (k+1)=k
 |0,_=>cntB_one P
 |k+1,h=>by rw[cntB_yes P (k+1) (by omega) (h _ (by omega) (Nat.le_refl _)),cntB_true k fun u h1 h2=>h u h1 (by omega)]
theorem plus_comes {x y:Cr} (h:x.plus=y.plus) (s:Nat):x.comes s=y.comes s:=by unfold Cr.comes;rw[h]
theorem uni_at {D:List Cr} {l2:Int} (hmD:mayD D l2=true) (G:List Nat) (hG:∀ g,g∈G->g<D.length) (r:Nat->Nat) (rle:∀ u,r u<=u)
    (hcon:∀ v u,Con (tkE D G) v u->r v=r u) (hto:∀ v,v<=2*D.length->Con (tkE D G) v (r v)) {v:Nat} (hv:v<=2*D.length):(uniM D (nx D) G).getD v 0=r v:=by
 have hL:Least (tkE D G) (2*D.length+1) (uniM D (nx D) G):=by
  rw[<-take_levels hmD G hG]
  exact QZ9 (tk_lt hmD G hG) _ (Nat.le_refl _)
 obtain⟨c1,c2⟩:=hL.2 v (by omega)
 have h1:=c2 _ (hto v hv)
 have h2:=hcon _ _ c1
 have h3:=rle ((uniM D (nx D) G).getD v 0)
 omega
theorem take_core {C D:List Cr} {lo l2:Int} (hmC:mayD C lo=true) (hmD:mayD D l2=true) (G:List Nat) (hn:C.length<=D.length) (hG:∀ k,k∈G↔C.length<=k/\k<D.length) (r:Nat->Nat) (rle:∀ u,r u<=u) (r0:∀ v,v<=2*C.length->r v=v)
    (hcon:∀ v u,Con (tkE D G) v u->r v=r u) (hto:∀ v,v<=2*D.length->Con (tkE D G) v (r v))
    (hD:∀ k,k<C.length->(D.getD k Cr.none).plus=(C.getD k Cr.none).plus/\∀ s,s<4->r ((D.getD k Cr.none).arc s).toNat=((C.getD k Cr.none).arc s).toNat):takC D G=C/\(∀ v,v<=2*D.length->(uniM D (nx D) G).getD v 0=r v)/\∀ v,1<=v->v<=2*C.length->stB D G (uniM D (nx D) G) (2*D.length+1) v=true:=by
 have hG':∀ g,g∈G->g<D.length:=fun g hg=>((hG g).1 hg).2
 have hL:∀ v,v<=2*D.length->(uniM D (nx D) G).getD v 0=r v:=fun v hv=>uni_at hmD G hG' r rle hcon hto hv
 have hst:∀ v,1<=v->v<=2*C.length->stB D G (uniM D (nx D) G) (2*D.length+1) v=true:=fun v h1 h2=>by
  rw[stB_iff]
  obtain⟨-,t1,t2,t3,t4⟩:=QJ0 hmC v h1 h2
  obtain⟨hp,ha⟩:=hD _ t1
  have hc:(D.getD (toC C v) Cr.none).comes (toS C v)=true:=by rw[plus_comes hp];exact t4
  obtain⟨e1,e2,e3,e4⟩:=QW3 hmD (toC C v) (toS C v) (by omega) t2
  rw[hc]at e1 e2
  refine⟨aAt D (toC C v) (toS C v),by omega,?_,?_⟩
  · rw[hL _ e4]
    have:=ha _ t2
    rw[t3]at this
    exact this
  · unfold goneB
    rw[if_neg (by omega)]
    have:toC D (aAt D (toC C v) (toS C v))=toC C v:=e1
    rw[this]
    exact decide_eq_false fun hg=>by have:=(hG _).1 hg;omega
 have hlt:∀ v,1<=v->v<=2*C.length->ltB (uniM D (nx D) G) (stB D G (uniM D (nx D) G) (2*D.length+1)) v=true:=fun v h1 h2=>by
  unfold ltB
  rw[hst v h1 h2,hL v (by omega),r0 v h2]
  simp
 have hnum:∀ a,1<=r a->r a<=2*C.length->a<=2*D.length->numM (uniM D (nx D) G) (ltB (uniM D (nx D) G) (stB D G (uniM D (nx D) G) (2*D.length+1))) a=r a:=fun a h1 h2 h3=>by
  unfold numM
  rw[hL a h3,if_pos (hlt _ h1 h2)]
  obtain⟨q,hq⟩:∃ q,r a=q+1:=⟨r a - 1,by omega⟩
  rw[hq,cntB_true q fun u g1 g2=>hlt u g1 (by omega)]
 refine⟨?_,hL,hst⟩
 · have low:∀ i,i<=C.length->reTo D G (numM (uniM D (nx D) G) (ltB (uniM D (nx D) G) (stB D G (uniM D (nx D) G) (2*D.length+1)))) i=C.take i:=by
     intro i
     induction i with
     |zero=>intro _;rfl
     |succ i ih=>
      intro hi
      rw[reTo_next,if_neg (fun hg=>by have:=(hG i).1 hg;omega),ih (by omega),List.take_add_one,List.getElem?_eq_getElem (by omega:i<C.length)]
      have e:C.getD i Cr.none=C[i]:=by rw[List.getD_eq_getElem?_getD,List.getElem?_eq_getElem (by omega:i<C.length)];rfl
      rw[<-e]
      obtain⟨hp,ha⟩:=hD i (by omega)
      have key:∀ s,s<4->((numM (uniM D (nx D) G) (ltB (uniM D (nx D) G) (stB D G (uniM D (nx D) G) (2*D.length+1))) ((D.getD i Cr.none).arc s).toNat:Nat):Int)=(C.getD i Cr.none).arc s:=fun s hs=>by
       have f1:=QK7 hmC i s (by omega) hs
       have f2:=QK7 hmD i s (by omega) hs
       have g1:=f1.1
       have g2:=f1.2.1
       have g3:=f2.2.1
       have g4:=ha s hs
       rw[hnum _ (by omega) (by omega) (by omega),g4]
       omega
      have k0:=key 0 (by omega)
      have k1:=key 1 (by omega)
      have k2:=key 2 (by omega)
      have k3:=key 3 (by omega)
      show C.take i++[reX _ (D.getD i Cr.none)]=C.take i++[C.getD i Cr.none]
      congr 1
      congr 1
      unfold reX
      have e0:(C.getD i Cr.none)=⟨(C.getD i Cr.none).arc 0,(C.getD i Cr.none).arc 1,(C.getD i Cr.none).arc 2,(C.getD i Cr.none).arc 3,(C.getD i Cr.none).plus⟩:=rfl
      rw[e0,<-k0,<-k1,<-k2,<-k3,<-hp]
      rfl
   have high:∀ d,C.length+d<=D.length->reTo D G (numM (uniM D (nx D) G) (ltB (uniM D (nx D) G) (stB D G (uniM D (nx D) G) (2*D.length+1)))) (C.length+d)=C:=by
    intro d
    induction d with
    |zero=>
     intro _
     show reTo D G _ C.length=C
     rw[low _ (Nat.le_refl _),List.take_length]
    |succ d ih=>
     intro hd
     rw[show C.length+(d+1)=(C.length+d)+1 by omega,reTo_next,if_pos ((hG _).2 (by omega)),ih (by omega)]
   have:=high (D.length-C.length) (by omega)
   rw[show C.length+(D.length-C.length)=D.length by omega]at this
   exact this
theorem take_back {C D:List Cr} {lo l2:Int} (hmC:mayD C lo=true) (hmD:mayD D l2=true) (G:List Nat) (hn:C.length<=D.length) (hG:∀ k,k∈G↔C.length<=k/\k<D.length) (r:Nat->Nat) (rle:∀ u,r u<=u) (r0:∀ v,v<=2*C.length->r v=v) (rn:∀ v,2*C.length<v->v<=2*D.length->r v<v)
    (hcon:∀ v u,Con (tkE D G) v u->r v=r u) (hto:∀ v,v<=2*D.length->Con (tkE D G) v (r v))
    (hD:∀ k,k<C.length->(D.getD k Cr.none).plus=(C.getD k Cr.none).plus/\∀ s,s<4->r ((D.getD k Cr.none).arc s).toNat=((C.getD k Cr.none).arc s).toNat):takC D G=C/\takL D l2 G=l2:=by
 obtain⟨h1,hL,hst⟩:=take_core hmC hmD G hn hG r rle r0 hcon hto hD
 refine⟨h1,?_⟩
 unfold takL
 rw[cntB_false _ fun u h1 h2=>?_]
 · simp
 · unfold lfB
   rcases Nat.lt_or_ge (2*C.length) u with q|q
   · have:=rn u q (by omega)
     rw[hL u (by omega),decide_eq_false (by omega:¬ r u=u)]
     rfl
   · rw[hst u h1 q]
     simp
theorem con_fun {E:List (Nat×Nat)} (r:Nat->Nat) (h:∀ e,e∈E->r e.1=r e.2) {v u:Nat} (hc:Con E v u):r v=r u:=hc (fun z=>r v=r z) (fun e he=>by show r v=r e.1↔r v=r e.2;rw[h e he]) rfl
theorem tk_one (D:List Cr) (g:Nat):tkE D [g]=[(((D.getD g Cr.none).arc 0).toNat,((D.getD g Cr.none).arc 2).toNat),(((D.getD g Cr.none).arc 1).toNat,((D.getD g Cr.none).arc 3).toNat)]:=rfl
theorem tk_two' (D:List Cr) (g k:Nat):tkE D [g,k]=[(((D.getD g Cr.none).arc 0).toNat,((D.getD g Cr.none).arc 2).toNat),(((D.getD g Cr.none).arc 1).toNat,((D.getD g Cr.none).arc 3).toNat),(((D.getD k Cr.none).arc 0).toNat,((D.getD k Cr.none).arc 2).toNat),(((D.getD k Cr.none).arc 1).toNat,((D.getD k Cr.none).arc 3).toNat)]:=rfl
def rhC (n x v:Nat):Nat:=if v=2*n+1∨v=2*n+2 then x else v
theorem cuX_two (n x y:Nat) (hy:y<4):(((cuX n x y).arc 0).toNat,((cuX n x y).arc 2).toNat)∈[(x,2*n+1),(2*n+1,2*n+2)]/\(((cuX n x y).arc 1).toNat,((cuX n x y).arc 3).toNat)∈[(x,2*n+1),(2*n+1,x),(2*n+1,2*n+2),(2*n+2,2*n+1)]/\
    ((((cuX n x y).arc 0).toNat=x/\((cuX n x y).arc 2).toNat=2*n+1/\(((cuX n x y).arc 1).toNat=2*n+1/\((cuX n x y).arc 3).toNat=2*n+2∨((cuX n x y).arc 1).toNat=2*n+2/\((cuX n x y).arc 3).toNat=2*n+1))∨(((cuX n x y).arc 0).toNat=2*n+1/\((cuX n x y).arc 2).toNat=2*n+2/\(((cuX n x y).arc 1).toNat=x/\((cuX n x y).arc 3).toNat=2*n+1∨((cuX n x y).arc 1).toNat=2*n+1/\((cuX n x y).arc 3).toNat=x))):=by
 have hy':y=0∨y=1∨y=2∨y=3:=by omega
 rcases hy' with rfl|rfl|rfl|rfl<;>simp[cuX,QZ1,Cr.arc,QZ6,QW1]
theorem cuL_back {C:List Cr} {lo:Int} (hm:mayD C lo=true) (hp:QX1 C=true) {x:Nat} (hx1:1<=x) (hx2:x<=2*C.length) {y:Nat} (hy:y<4) (hn:C.length<16):takC (cuL C x y) [C.length]=C/\takL (cuL C x y) lo [C.length]=lo:=by
 obtain⟨hmD,-⟩:=cuL_may hm hp hx1 hx2 hy hn
 have hl:=cuL_len C x y
 obtain⟨-,-,h3⟩:=cuX_two C.length x y hy
 have hE:=tk_one (cuL C x y) C.length
 rw[cuL_new]at hE
 have hc:∀ v,v<=2*(cuL C x y).length->Con (tkE (cuL C x y) [C.length]) v (rhC C.length x v):=fun v hv=>by
  unfold rhC
  split
  · rename_i h
    rw[hE]
    rcases h3 with⟨e0,e2,⟨e1,e3⟩|⟨e1,e3⟩⟩|⟨e0,e2,⟨e1,e3⟩|⟨e1,e3⟩⟩<;>rw[e0,e1,e2,e3]<;>rcases h with rfl|rfl
    · exact(Con.edge (by simp)).symm
    · exact((Con.edge (by simp:(2*C.length+1,2*C.length+2)∈_)).symm).trans (Con.edge (by simp:(x,2*C.length+1)∈_)).symm
    · exact(Con.edge (by simp)).symm
    · exact(Con.edge (by simp:(2*C.length+2,2*C.length+1)∈_)).trans (Con.edge (by simp:(x,2*C.length+1)∈_)).symm
    · exact(Con.edge (by simp)).symm
    · exact((Con.edge (by simp:(2*C.length+1,2*C.length+2)∈_)).symm).trans (Con.edge (by simp:(x,2*C.length+1)∈_)).symm
    · exact Con.edge (by simp)
    · exact((Con.edge (by simp:(2*C.length+1,2*C.length+2)∈_)).symm).trans (Con.edge (by simp:(2*C.length+1,x)∈_))
  · exact Con.refl _ _
 refine take_back hm hmD [C.length] (by omega) (fun k=>?_) (rhC C.length x) (fun u=>?_) (fun v hv=>?_) (fun v h1 h2=>?_) (fun v u hc=>?_) hc (fun k hk=>⟨?_,fun s hs=>?_⟩)
 · rw[List.mem_singleton]
   omega
 · unfold rhC
   split<;>omega
 · unfold rhC
   rw[if_neg (by omega)]
 · unfold rhC
   rw[if_pos (by omega)]
   omega
 · refine con_fun _ (fun e he=>?_) hc
   have r1:rhC C.length x x=x:=by unfold rhC;split<;>rfl
   have r2:rhC C.length x (2*C.length+1)=x:=by unfold rhC;rw[if_pos (Or.inl rfl)]
   have r3:rhC C.length x (2*C.length+2)=x:=by unfold rhC;rw[if_pos (Or.inr rfl)]
   rw[hE]at he
   simp only[List.mem_cons,List.not_mem_nil,or_false]at he
   rcases h3 with⟨e0,e2,⟨e1,e3⟩|⟨e1,e3⟩⟩|⟨e0,e2,⟨e1,e3⟩|⟨e1,e3⟩⟩<;>rw[e0,e1,e2,e3]at he<;>rcases he with rfl|rfl<;>simp only[r1,r2,r3]
 · rw[cuL_old C x y hk]
   obtain⟨-,t1,t2,t3,t4⟩:=QJ0 hm x hx1 hx2
   rw[setL_get C t1]
   split
   · rename_i h
     rw[h]
     unfold Cr.at
     split
     · rfl
     · split
       · rfl
       · split<;>rfl
   · rfl
 · rw[cuL_old C x y hk]
   obtain⟨-,t1,t2,t3,t4⟩:=QJ0 hm x hx1 hx2
   rw[QU3 C t1 t2 _ _ hs]
   split
   · rename_i h
     rw[QW1,h.1,h.2,t3]
     unfold rhC
     rw[if_pos (Or.inr rfl)]
     rfl
   · have f1:=QK7 hm k s hk hs
     have g2:=f1.2.1
     unfold rhC
     rw[if_neg (by omega)]
theorem cuL_ca {C:List Cr} {x y:Nat} (hy:y<4):caB (cuL C x y) C.length=true:=by
 unfold caB
 rw[cuL_new]
 have hy':y=0∨y=1∨y=2∨y=3:=by omega
 rcases hy' with rfl|rfl|rfl|rfl<;>simp[cuX,QZ1,Cr.arc,List.range,List.range.loop]
def rhL (n v:Nat):Nat:=if v=2*n+2 then 2*n+1 else v
theorem loX_two (n y:Nat) (hy:y<4):((((loX n y).arc 0).toNat=2*n+1/\((loX n y).arc 2).toNat=2*n+2)∨(((loX n y).arc 0).toNat=2*n+2/\((loX n y).arc 2).toNat=2*n+1))/\((((loX n y).arc 1).toNat=2*n+1/\((loX n y).arc 3).toNat=2*n+2)∨(((loX n y).arc 1).toNat=2*n+2/\((loX n y).arc 3).toNat=2*n+1)):=by
 have hy':y=0∨y=1∨y=2∨y=3:=by omega
 rcases hy' with rfl|rfl|rfl|rfl<;>simp[loX,QZ1,Cr.arc,QZ6,QW1]
theorem loL_back {C:List Cr} {lo l2:Int} (hm:mayD C lo=true) (hp:QX1 C=true) {y:Nat} (hy:y<4) (hn:C.length<16) (h0:0<=l2) (h16:l2<=16):takC (loL C y) [C.length]=C/\takL (loL C y) l2 [C.length]=l2+1:=by
 obtain⟨hmD,-⟩:=loL_may hm hp hy hn h0 h16
 have hl:=loL_len C y
 obtain⟨h3,h4⟩:=loX_two C.length y hy
 have hE:=tk_one (loL C y) C.length
 rw[loL_new]at hE
 have hG:∀ k,k∈[C.length]↔C.length<=k/\k<(loL C y).length:=fun k=>by
  rw[List.mem_singleton]
  omega
 obtain⟨k1,hL,hst⟩:=take_core hm hmD [C.length] (by omega) hG (rhL C.length) (fun u=>by unfold rhL;split<;>omega) (fun v hv=>by unfold rhL;rw[if_neg (by omega)])
  (fun v u hc=>con_fun _ (fun e he=>by
   have r2:rhL C.length (2*C.length+1)=2*C.length+1:=by unfold rhL;rw[if_neg (by omega)]
   have r3:rhL C.length (2*C.length+2)=2*C.length+1:=by unfold rhL;rw[if_pos rfl]
   rw[hE]at he
   simp only[List.mem_cons,List.not_mem_nil,or_false]at he
   rcases h3 with⟨e0,e2⟩|⟨e0,e2⟩<;>rcases h4 with⟨e1,e3⟩|⟨e1,e3⟩<;>rw[e0,e1,e2,e3]at he<;>rcases he with rfl|rfl<;>simp only[r2,r3]) hc)
  (fun v hv=>by
   unfold rhL
   split
   · rename_i h
     rw[hE,h]
     rcases h3 with⟨e0,e2⟩|⟨e0,e2⟩<;>rw[e0,e2]
     · exact(Con.edge (by simp)).symm
     · exact Con.edge (by simp)
   · exact Con.refl _ _)
  (fun k hk=>by
   rw[loL_old C y hk]
   refine⟨rfl,fun s hs=>?_⟩
   have f1:=QK7 hm k s hk hs
   have g2:=f1.2.1
   unfold rhL
   rw[if_neg (by omega)])
 refine⟨k1,?_⟩
 have hto:∀ a,a=2*C.length+1∨a=2*C.length+2->toC (loL C y) a=C.length:=fun a ha=>by
  have hcl:∀ s,s<4->(loX C.length y).comes s=true->((loX C.length y).arc s).toNat=a->toC (loL C y) a=C.length:=fun s hs hc e=>by
   have:=en_pd hmD (k:=C.length) (s:=s) (a:=a) (p:=true) (by omega) hs (by omega) (by rw[QW0 _ _ hs,loL_new,e,hc])
   exact this.1
  have hy':y=0∨y=1∨y=2∨y=3:=by omega
  rcases hy' with rfl|rfl|rfl|rfl<;>rcases ha with rfl|rfl
  · exact hcl 0 (by omega) (by simp[loX,QZ1,Cr.comes]) (by simp[loX,QZ1,Cr.arc,QZ6])
  · exact hcl 1 (by omega) (by simp[loX,QZ1,Cr.comes]) (by simp[loX,QZ1,Cr.arc,QW1])
  · exact hcl 0 (by omega) (by simp[loX,QZ1,Cr.comes]) (by simp[loX,QZ1,Cr.arc,QZ6])
  · exact hcl 3 (by omega) (by simp[loX,QZ1,Cr.comes]) (by simp[loX,QZ1,Cr.arc,QW1])
  · exact hcl 1 (by omega) (by simp[loX,QZ1,Cr.comes]) (by simp[loX,QZ1,Cr.arc,QZ6])
  · exact hcl 0 (by omega) (by simp[loX,QZ1,Cr.comes]) (by simp[loX,QZ1,Cr.arc,QW1])
  · exact hcl 3 (by omega) (by simp[loX,QZ1,Cr.comes]) (by simp[loX,QZ1,Cr.arc,QZ6])
  · exact hcl 0 (by omega) (by simp[loX,QZ1,Cr.comes]) (by simp[loX,QZ1,Cr.arc,QW1])
 have hstn:stB (loL C y) [C.length] (uniM (loL C y) (nx (loL C y)) [C.length]) (2*(loL C y).length+1) (2*C.length+1)=false:=by
  rw[<-Bool.not_eq_true,stB_iff]
  rintro⟨a,ha,e,hg⟩
  rw[hL a (by omega)]at e
  have ha':a=2*C.length+1∨a=2*C.length+2:=by
   unfold rhL at e
   split at e<;>omega
  unfold goneB at hg
  rw[if_neg (by omega),hto a ha']at hg
  simp at hg
 unfold takL
 have hcnt:cntB (lfB (uniM (loL C y) (nx (loL C y)) [C.length]) (stB (loL C y) [C.length] (uniM (loL C y) (nx (loL C y)) [C.length]) (2*(loL C y).length+1))) (2*(loL C y).length+1)=1:=by
  generalize hP:lfB (uniM (loL C y) (nx (loL C y)) [C.length]) (stB (loL C y) [C.length] (uniM (loL C y) (nx (loL C y)) [C.length]) (2*(loL C y).length+1))=P
  have p1:∀ u,1<=u->u<2*C.length+1->P u=false:=fun u h1 h2=>by
   rw[<-hP]
   unfold lfB
   rw[hst u h1 (by omega)]
   simp
  have p2:P (2*C.length+1)=true:=by
   rw[<-hP]
   unfold lfB
   rw[hstn,hL _ (by omega)]
   simp[rhL]
  have p3:P (2*C.length+2)=false:=by
   rw[<-hP]
   unfold lfB
   rw[hL _ (by omega),decide_eq_false (by unfold rhL;rw[if_pos rfl];omega)]
   rfl
  rw[hl,show 2*(C.length+1)+1=(2*C.length+2)+1 by omega,cntB_no P _ p3,show 2*C.length+2=(2*C.length+1)+1 by omega,cntB_yes P _ (by omega) p2,cntB_false _ p1]
 rw[hcnt]
 rfl
theorem loL_ca {C:List Cr} {y:Nat} (hy:y<4):caB (loL C y) C.length=true:=by
 unfold caB
 rw[loL_new]
 have hy':y=0∨y=1∨y=2∨y=3:=by omega
 rcases hy' with rfl|rfl|rfl|rfl<;>simp[loX,QZ1,Cr.arc,List.range,List.range.loop]
end Go.Proofs.Ytagaajlbkfkaiaa
