/- Several texts of the proof, one behind the other. -/
import Derived.Test.YtagaajlbkfkaiaaF5P
import Derived.Test.YtagaajlbkfkaiaaJ3h
import Derived.Test.YtagaajlbkfkaiaaMV1
import Derived.Test.YtagaajlbkfkaiaaMV5
import Derived.Test.YtagaajlbkfkaiaaMV6P
import Derived.Test.YtagaajlbkfkaiaaMVc
import Derived.Test.YtagaajlbkfkaiaaMVp
import Derived.Test.YtagaajlbkfkaiaaME6P
import Derived.Test.YtagaajlbkfkaiaaF1P
/- The walk of (bench).without: crossings taken out, their strands going on. -/
namespace Go.Proofs.Ytagaajlbkfkaiaa
open Go.RowKit
set_option maxHeartbeats 4000000
set_option maxRecDepth 100000
def takL (C:List Cr) (loops:Int) (G:List Nat):Int:=loops+(cntB (lfB (uniM C (nx C) G) (stB C G (uniM C (nx C) G) (2*C.length+1))) (2*C.length+1):Nat)
def takC (C:List Cr) (G:List Nat):List Cr:=reTo C G (numM (uniM C (nx C) G) (ltB (uniM C (nx C) G) (stB C G (uniM C (nx C) G) (2*C.length+1)))) C.length
theorem st2D {W:World} {z:Nat} {a b c d:Value} {t:TypeId} {fz:Nat×Nat} (h:W.heap[z]?=some (.cells #[c,d] t fz)):((W.setCell ⟨z,0,none⟩ a).setCell ⟨z,1,none⟩ b).heap[z]?=some (.cells #[a,b] t fz):=set_block (set_block h)
theorem own_two {W:World} {B e s n z:Nat} {v:Value} {xs:List Value} (h:W.ownsRow B e s v n xs) (hz:z<B) (a b:Value):((W.setCell ⟨z,0,none⟩ a).setCell ⟨z,1,none⟩ b).ownsRow B e s v n xs:=by
 refine h.kept (grown_trans (set_grown W z 0 a) (set_grown (W.setCell ⟨z,0,none⟩ a) z 1 b)) ?_
 cases hv:v.ownBlock with
 |none=>exact Or.inl rfl
 |some k=>exact Or.inr (fun e=>by have h1:=(h.lt k hv).1;have h2:=Option.some.inj e;omega)
theorem without_yes (a:Option Addr) (cap:Nat) (C:List Cr) (loops:Int) (gF cF gT cT:Nat) (bG cG:Nat) (G:List Nat) (w:World) (hm:mayD C loops=true) (hD:Dr w a cap C gF gT) (hG1:G.length<=16) (hG:GonAt w bG G) (hL:takL C loops G<=16):
    Calls Try.prog 109 #[drV a cap C loops gF cF gT cT, .slice (some ⟨bG, 0, none⟩) G.length cG] w fun e w' => ∃ a2 c2, e = .returned (.agg #[.slice a2 (takC C G).length c2, .int .i64 (takL C loops G)]) ∧ w'.ownsRow w.heap.size 71 5 (.slice a2 (takC C G).length c2) (takC C G).length (crossCells (takC C G)) ∧ Below w.heap.size w w' := by
 have HW:Hid (∀ W,Below w.heap.size w W->Calls Try.prog 124 #[drV a cap C loops gF cF gT cT,.func (.func 97) #[drV a cap C loops gF cF gT cT] #[],.slice (some ⟨bG,0,none⟩) G.length cG] W fun e w'=>∃ a2 c2,e=.returned (.agg #[.slice a2 (takC C G).length c2,.int .i64 (takL C loops G)])/\w'.ownsRow W.heap.size 71 5 (.slice a2 (takC C G).length c2) (takC C G).length (crossCells (takC C G))/\Below W.heap.size W w'):=fun W hW=>
  (without_ahead a cap C loops gF cF gT cT bG cG G W hm (hD.on hW) hG1 (hG.on hW)).mono fun e w' h=>by
   obtain⟨v,h1,h2,h3⟩:=h
   obtain⟨a2,c2,rfl⟩:=own_capS h2
   exact⟨a2,c2,h1,h2,h3⟩
 generalize takC C G=D at HW ⊢
 generalize takL C loops G=lo at HW hL ⊢
 obtain⟨Y,hY⟩:∃ Y,(w.alloc (.cells #[.slice a C.length cap,.int .i64 loops,.slice (some ⟨gF,0,none⟩) (2*C.length+1) cF,.slice (some ⟨gT,0,none⟩) (2*C.length+1) cT] 63)).alloc (.cells #[.slice none 0 0,.int .i64 0] 24)=Y:=⟨_,rfl⟩
 have hBY:Below w.heap.size w Y:=by rw[<-hY];exact((Below.refl _ _).alloc (Nat.le_refl _) _).alloc (by simp) _
 have HBY:=hid_of hBY
 have HT0:Hid (Y.heap[w.heap.size]?=some (.cells #[.slice a C.length cap,.int .i64 loops,.slice (some ⟨gF,0,none⟩) (2*C.length+1) cF,.slice (some ⟨gT,0,none⟩) (2*C.length+1) cT] 63 (0,0))):=(by rw[<-hY];exact alloc_old (alloc_at rfl):Y.heap[w.heap.size]?=_)
 have HT1:Hid (Y.heap[w.heap.size+1]?=some (.cells #[.slice none 0 0,.int .i64 0] 24 (0,0))):=(by rw[<-hY];exact alloc_at (by simp):Y.heap[w.heap.size+1]?=_)
 have hsY:w.heap.size+2<=Y.heap.size:=by rw[<-hY];simp
 have HWY:=hid_of (HW.out Y hBY)
 unfold drV at HWY ⊢
 have hL2:lo<=16:=hL
 have HY:=hid_of hY
 have b0:Y.cell? ⟨w.heap.size,0,none⟩=some (.slice a C.length cap):=block_cell HT0.out rfl
 have b1:Y.cell? ⟨w.heap.size,1,none⟩=some (.int .i64 loops):=block_cell HT0.out rfl
 have b2:Y.cell? ⟨w.heap.size,2,none⟩=some (.slice (some ⟨gF,0,none⟩) (2*C.length+1) cF):=block_cell HT0.out rfl
 have b3:Y.cell? ⟨w.heap.size,3,none⟩=some (.slice (some ⟨gT,0,none⟩) (2*C.length+1) cT):=block_cell HT0.out rfl
 clear HW hm hD hG1 hG hBY
 go_enter Try.func109,Try.ntmps109
 go_wp2_with (first
  | (go_at_call 124; refine HWY.out.mono ?_; rintro e9 w3 ⟨a2, c2, rfl, ho3, hb3⟩
     have HO3:=hid_of ho3
     have HB3:=hid_of hb3
     have hs3:=hb3.size
     have q1:=(hb3.block _ (by omega)).trans HT1.out
     have HQ1:=hid_of q1
     have k0:w3.cell? ⟨w.heap.size+1,0,none⟩=some (.slice none 0 0):=block_cell q1 rfl
     have k1:w3.cell? ⟨w.heap.size+1,1,none⟩=some (.int .i64 0):=block_cell q1 rfl
     have f0:w3.frozen? ⟨w.heap.size+1,0,none⟩=false:=block_frozen q1
     have f1:w3.frozen? ⟨w.heap.size+1,1,none⟩=false:=block_frozen q1
     have lb:w.heap.size+1<w3.heap.size:=by omega
     clear ho3 hb3 q1)
  |(go_at_call 41;refine(need_ok 2 _).mono ?_;rintro e9 w4 ⟨rfl,e4⟩;obtain rfl:=e4.symm))
 have hZ:=alloc_old (o:=.cells #[.slice a2 D.length c2,.int .i64 lo] 24) (st2D (a:=.slice a2 D.length c2) (b:=.int .i64 lo) HQ1.out)
 have x0:=block_cell (i:=0) (v:=.slice a2 D.length c2) hZ rfl
 have x1:=block_cell (i:=1) (v:=.int .i64 lo) hZ rfl
 refine bodyPost_ret (v:=.agg #[.slice a2 D.length c2,.int .i64 lo]) (by simp[results,Try.results109,go_sem,x0,x1]) rfl ⟨a2,c2,rfl,?_,?_⟩
 · exact own_low ((own_two HO3.out (by omega) _ _).alloc _) (by omega)
 · exact(((HBY.out.trans (HB3.out.mono (by omega))).setCell (p:=⟨w.heap.size+1,0,none⟩) (by simp) _).setCell (p:=⟨w.heap.size+1,1,none⟩) (by simp) _).alloc (by simp;omega) _
theorem without_no (a:Option Addr) (cap:Nat) (C:List Cr) (loops:Int) (gF cF gT cT:Nat) (bG cG:Nat) (G:List Nat) (w:World) (hm:mayD C loops=true) (hD:Dr w a cap C gF gT) (hG1:G.length<=16) (hG:GonAt w bG G) (hL:16<takL C loops G):
    Calls Try.prog 109 #[drV a cap C loops gF cF gT cT, .slice (some ⟨bG, 0, none⟩) G.length cG] w fun e w' => e = .panicked (gaveUp 2) ∧ Below w.heap.size w w' := by
 have HW:Hid (∀ W,Below w.heap.size w W->Calls Try.prog 124 #[drV a cap C loops gF cF gT cT,.func (.func 97) #[drV a cap C loops gF cF gT cT] #[],.slice (some ⟨bG,0,none⟩) G.length cG] W fun e w'=>∃ a2 c2,e=.returned (.agg #[.slice a2 (takC C G).length c2,.int .i64 (takL C loops G)])/\w'.ownsRow W.heap.size 71 5 (.slice a2 (takC C G).length c2) (takC C G).length (crossCells (takC C G))/\Below W.heap.size W w'):=fun W hW=>
  (without_ahead a cap C loops gF cF gT cT bG cG G W hm (hD.on hW) hG1 (hG.on hW)).mono fun e w' h=>by
   obtain⟨v,h1,h2,h3⟩:=h
   obtain⟨a2,c2,rfl⟩:=own_capS h2
   exact⟨a2,c2,h1,h2,h3⟩
 generalize takC C G=D at HW
 generalize takL C loops G=lo at HW hL
 obtain⟨Y,hY⟩:∃ Y,(w.alloc (.cells #[.slice a C.length cap,.int .i64 loops,.slice (some ⟨gF,0,none⟩) (2*C.length+1) cF,.slice (some ⟨gT,0,none⟩) (2*C.length+1) cT] 63)).alloc (.cells #[.slice none 0 0,.int .i64 0] 24)=Y:=⟨_,rfl⟩
 have hBY:Below w.heap.size w Y:=by rw[<-hY];exact((Below.refl _ _).alloc (Nat.le_refl _) _).alloc (by simp) _
 have HBY:=hid_of hBY
 have HT0:Hid (Y.heap[w.heap.size]?=some (.cells #[.slice a C.length cap,.int .i64 loops,.slice (some ⟨gF,0,none⟩) (2*C.length+1) cF,.slice (some ⟨gT,0,none⟩) (2*C.length+1) cT] 63 (0,0))):=(by rw[<-hY];exact alloc_old (alloc_at rfl):Y.heap[w.heap.size]?=_)
 have HT1:Hid (Y.heap[w.heap.size+1]?=some (.cells #[.slice none 0 0,.int .i64 0] 24 (0,0))):=(by rw[<-hY];exact alloc_at (by simp):Y.heap[w.heap.size+1]?=_)
 have hsY:w.heap.size+2<=Y.heap.size:=by rw[<-hY];simp
 have HWY:=hid_of (HW.out Y hBY)
 unfold drV at HWY ⊢
 have d1:decide (lo<=16)=false:=decide_eq_false (by omega)
 have HY:=hid_of hY
 have b0:Y.cell? ⟨w.heap.size,0,none⟩=some (.slice a C.length cap):=block_cell HT0.out rfl
 have b1:Y.cell? ⟨w.heap.size,1,none⟩=some (.int .i64 loops):=block_cell HT0.out rfl
 have b2:Y.cell? ⟨w.heap.size,2,none⟩=some (.slice (some ⟨gF,0,none⟩) (2*C.length+1) cF):=block_cell HT0.out rfl
 have b3:Y.cell? ⟨w.heap.size,3,none⟩=some (.slice (some ⟨gT,0,none⟩) (2*C.length+1) cT):=block_cell HT0.out rfl
 clear HW hm hD hG1 hG hBY
 go_enter Try.func109,Try.ntmps109
 go_wp2_with (first
  | (go_at_call 41; try rw [d1]
     refine(need_no 2 _).mono ?_;rintro e9 w4 ⟨rfl,e4⟩;obtain rfl:=e4.symm)
  | (go_at_call 124; refine HWY.out.mono ?_; rintro e9 w3 ⟨a2, c2, rfl, ho3, hb3⟩
     have HO3:=hid_of ho3
     have HB3:=hid_of hb3
     have hs3:=hb3.size
     have q1:=(hb3.block _ (by omega)).trans HT1.out
     have HQ1:=hid_of q1
     have k0:w3.cell? ⟨w.heap.size+1,0,none⟩=some (.slice none 0 0):=block_cell q1 rfl
     have k1:w3.cell? ⟨w.heap.size+1,1,none⟩=some (.int .i64 0):=block_cell q1 rfl
     have f0:w3.frozen? ⟨w.heap.size+1,0,none⟩=false:=block_frozen q1
     have f1:w3.frozen? ⟨w.heap.size+1,1,none⟩=false:=block_frozen q1
     have lb:w.heap.size+1<w3.heap.size:=by omega
     clear ho3 hb3 q1))
 exact⟨rfl,rfl,(HBY.out.trans (HB3.out.mono (by omega))).alloc (by omega) _⟩
end Go.Proofs.Ytagaajlbkfkaiaa
/- Moves: the walk of bench.uncurl. Made by genmw2.py. -/
namespace Go.Proofs.Ytagaajlbkfkaiaa
open Go.RowKit
set_option maxHeartbeats 4000000
set_option maxRecDepth 100000
def cuB (C:List Cr) (k:Nat):Bool:=(List.range (2*C.length+1)).any fun x=>decide (1<=x)&&crlB C k x
theorem cuB_iff (C:List Cr) (k:Nat):cuB C k=true↔∃ x,1<=x/\x<=2*C.length/\crlB C k x=true:=by
 unfold cuB
 rw[List.any_eq_true]
 constructor
 · rintro⟨x,h1,h2⟩
   rw[Bool.and_eq_true,decide_eq_true_eq]at h2
   exact⟨x,h2.1,by have:=List.mem_range.1 h1;omega,h2.2⟩
 · rintro⟨x,h1,h2,h3⟩
   exact⟨x,List.mem_range.2 (by omega),by rw[h3,decide_eq_true h1];rfl⟩
theorem curled_is (a:Option Addr) (cap:Nat) (C:List Cr) (loops:Int) (gF cF gT cT:Nat) (k:Nat) (w:World) (hm:mayD C loops=true) (hd:Dr w a cap C gF gT):
    Calls Try.prog 108 #[drV a cap C loops gF cF gT cT,.int .i64 (k:Nat)] w fun e w'=>e=.returned (.bool (cuB C k))/\Below w.heap.size w w':=curled_any a cap C loops gF cF gT cT k (cuB C k) w hm hd (cuB_iff C k)
theorem uncurl_no1 (a:Option Addr) (cap:Nat) (C:List Cr) (loops:Int) (gF cF gT cT:Nat) (k x y ua va:Int) (ub vb ov:Bool) (w:World) (h:crB C x=false):
    Calls Try.prog 89 #[drV a cap C loops gF cF gT cT, mvV k x y ua ub va vb ov] w fun e w' => e = .panicked (gaveUp 3) ∧ Below w.heap.size w w' := by
 unfold mvV
 obtain⟨Y,hY,hBY,hTY,hsY⟩:=bm_ex w a cap C loops gF cF gT cT k x y ua va ub vb ov
 have HBY:=hid_of hBY
 have HCE:=hid_of (bm_ce hTY)
 clear hBY hTY
 have HHC:=hid_of (hasCross_any a cap C loops gF cF gT cT x Y)
 rw[h]at HHC
 unfold drV at HHC ⊢
 have cpl0:=bm_cells (HCE.out Y (Below.refl _ _))
 have pZ:=hid_of (HCE.out Y (Below.refl _ _)).1.2.2
 clear h
 go_enter Try.func89,Try.ntmps89
 go_wp2_with (first
  |(go_at_call 41;refine(need_no 3 _).mono ?_;rintro e9 w4 ⟨rfl,e4⟩;obtain rfl:=e4.symm)
  | (go_at_call 107; refine HHC.out.mono ?_; rintro e9 w3 ⟨rfl, hb3⟩
     have HB3:=hid_of hb3
     clear hb3))
 exact⟨rfl,rfl,HBY.out.trans (HB3.out.mono (by omega))⟩
theorem uncurl_no2 (a:Option Addr) (cap:Nat) (C:List Cr) (loops:Int) (gF cF gT cT:Nat) (k y ua va:Int) (x:Nat) (ub vb ov:Bool) (w:World) (hm:mayD C loops=true) (hd:Dr w a cap C gF gT) (hx:x<C.length) (h:cuB C x=false):
    Calls Try.prog 89 #[drV a cap C loops gF cF gT cT, mvV k (x : Nat) y ua ub va vb ov] w fun e w' => e = .panicked (gaveUp 8) ∧ Below w.heap.size w w' := by
 unfold mvV
 obtain⟨Y,hY,hBY,hTY,hsY⟩:=bm_ex w a cap C loops gF cF gT cT k (x:Nat) y ua va ub vb ov
 have HBY:=hid_of hBY
 have HCE:=hid_of (bm_ce hTY)
 clear hBY hTY
 have HHC:=hid_of (hasCross_any a cap C loops gF cF gT cT (x:Nat) Y)
 have hc:crB C (x:Nat)=true:=by unfold crB;simp;omega
 rw[hc]at HHC
 have HCU:Hid (∀ W,Below Y.heap.size Y W->Calls Try.prog 108 #[drV a cap C loops gF cF gT cT,.int .i64 (x:Nat)] W fun e w'=>e=.returned (.bool false)/\Below W.heap.size W w'):=fun W hW=>by
  have:=curled_is a cap C loops gF cF gT cT x W hm (hd.on (HBY.out.trans (hW.mono (by omega))))
  rw[h]at this
  exact this
 unfold drV at HHC HCU ⊢
 have cpl0:=bm_cells (HCE.out Y (Below.refl _ _))
 have pZ:=hid_of (HCE.out Y (Below.refl _ _)).1.2.2
 clear h hc hm hd
 go_enter Try.func89,Try.ntmps89
 go_upto_region 2 with(first
  |(go_at_call 41;refine(need_ok 3 _).mono ?_;rintro e9 w4 ⟨rfl,e4⟩;obtain rfl:=e4.symm)
  | (go_at_call 107; refine HHC.out.mono ?_; rintro e9 w3 ⟨rfl, hb3⟩
     have HB3:=hid_of hb3
     have cql0:=bm_cells (HCE.out w3 (hb3))
     have qZ:=hid_of (HCE.out w3 (hb3)).1.2.2
     clear hb3))
 go_wp2_with (first
  |(go_at_call 41;refine(need_no 8 _).mono ?_;rintro e9 w4 ⟨rfl,e4⟩;obtain rfl:=e4.symm)
  | (go_at_call 108; refine (HCU.out _ HB3.out).mono ?_; rintro e9 w5 ⟨rfl, hb5⟩
     have HB5:=hid_of (HB3.out.trans (hb5.mono HB3.out.size))
     clear hb5))
 exact⟨rfl,rfl,HBY.out.trans (HB5.out.mono (by omega))⟩
theorem uncurl_no3 (a:Option Addr) (cap:Nat) (C:List Cr) (loops:Int) (gF cF gT cT:Nat) (k y ua va:Int) (x:Nat) (ub vb ov:Bool) (w:World) (hm:mayD C loops=true) (hd:Dr w a cap C gF gT) (hx:x<C.length) (h:cuB C x=true) (hL:16<takL C loops [x]):
    Calls Try.prog 89 #[drV a cap C loops gF cF gT cT, mvV k (x : Nat) y ua ub va vb ov] w fun e w' => e = .panicked (gaveUp 2) ∧ Below w.heap.size w w' := by
 unfold mvV
 obtain⟨Y,hY,hBY,hTY,hsY⟩:=bm_ex w a cap C loops gF cF gT cT k (x:Nat) y ua va ub vb ov
 have HBY:=hid_of hBY
 have HCE:=hid_of (bm_ce hTY)
 clear hBY hTY
 have HHC:=hid_of (hasCross_any a cap C loops gF cF gT cT (x:Nat) Y)
 have hc:crB C (x:Nat)=true:=by unfold crB;simp;omega
 rw[hc]at HHC
 have HCU:Hid (∀ W,Below Y.heap.size Y W->Calls Try.prog 108 #[drV a cap C loops gF cF gT cT,.int .i64 (x:Nat)] W fun e w'=>e=.returned (.bool true)/\Below W.heap.size W w'):=fun W hW=>by
  have:=curled_is a cap C loops gF cF gT cT x W hm (hd.on (HBY.out.trans (hW.mono (by omega))))
  rw[h]at this
  exact this
 have HWI:Hid (∀ (W:World) (g cG:Nat),Below Y.heap.size Y W->GonAt W g [x]->Calls Try.prog 109 #[drV a cap C loops gF cF gT cT,.slice (some ⟨g,0,none⟩) 1 cG] W fun e w'=>e=.panicked (gaveUp 2)/\Below W.heap.size W w'):=fun W g cG hW hg=>by
  have:=without_no a cap C loops gF cF gT cT g cG [x] W hm (hd.on (HBY.out.trans (hW.mono (by omega)))) (by simp) hg hL
  exact this
 unfold drV at HHC HCU HWI ⊢
 have cpl0:=bm_cells (HCE.out Y (Below.refl _ _))
 have pZ:=hid_of (HCE.out Y (Below.refl _ _)).1.2.2
 clear h hc hm hd hL
 go_enter Try.func89,Try.ntmps89
 go_upto_region 2 with(first
  |(go_at_call 41;refine(need_ok 3 _).mono ?_;rintro e9 w4 ⟨rfl,e4⟩;obtain rfl:=e4.symm)
  | (go_at_call 107; refine HHC.out.mono ?_; rintro e9 w3 ⟨rfl, hb3⟩
     have HB3:=hid_of hb3
     have cql0:=bm_cells (HCE.out w3 (hb3))
     have qZ:=hid_of (HCE.out w3 (hb3)).1.2.2
     clear hb3))
 go_upto_region 3 with(first
  |(go_at_call 41;refine(need_ok 8 _).mono ?_;rintro e9 w4 ⟨rfl,e4⟩;obtain rfl:=e4.symm)
  | (go_at_call 108; refine (HCU.out _ HB3.out).mono ?_; rintro e9 w5 ⟨rfl, hb5⟩
     have HB5:=hid_of (HB3.out.trans (hb5.mono HB3.out.size))
     have csl0:=bm_cells (HCE.out w5 (HB5.out))
     have sZ:=hid_of (HCE.out w5 (HB5.out)).1.2.2
     clear hb5))
 have hs5:=HB5.out.size
 have HG6:Hid (GonAt (w5.alloc (.cells #[.int .i64 (x:Nat)] 3)) w5.heap.size [x]):=⟨by simp,fun i hi=>by
  obtain rfl:i=0:=by simpa using hi
  exact block_cell (alloc_at rfl) rfl⟩
 have HB6:Hid (Below Y.heap.size Y (w5.alloc (.cells #[.int .i64 (x:Nat)] 3))):=HB5.out.alloc hs5 _
 go_wp2_with (go_at_call 109;refine(HWI.out _ _ _ HB6.out HG6.out).mono ?_;rintro e9 w7 ⟨rfl,hb7⟩)
 exact⟨rfl,rfl,HBY.out.trans ((HB6.out.trans (hb7.mono HB6.out.size)).mono (by omega))⟩
theorem uncurl_yes (a:Option Addr) (cap:Nat) (C:List Cr) (loops:Int) (gF cF gT cT:Nat) (k y ua va:Int) (x:Nat) (ub vb ov:Bool) (w:World) (hm:mayD C loops=true) (hd:Dr w a cap C gF gT) (hx:x<C.length) (h:cuB C x=true) (hL:takL C loops [x]<=16):
    Calls Try.prog 89 #[drV a cap C loops gF cF gT cT, mvV k (x : Nat) y ua ub va vb ov] w fun e w' => ∃ a2 c2, e = .returned (.agg #[.slice a2 (takC C [x]).length c2, .int .i64 (takL C loops [x])]) ∧ w'.ownsRow w.heap.size 71 5 (.slice a2 (takC C [x]).length c2) (takC C [x]).length (crossCells (takC C [x])) ∧ Below w.heap.size w w' := by
 unfold mvV
 obtain⟨Y,hY,hBY,hTY,hsY⟩:=bm_ex w a cap C loops gF cF gT cT k (x:Nat) y ua va ub vb ov
 have HBY:=hid_of hBY
 have HCE:=hid_of (bm_ce hTY)
 clear hBY hTY
 have HHC:=hid_of (hasCross_any a cap C loops gF cF gT cT (x:Nat) Y)
 have hc:crB C (x:Nat)=true:=by unfold crB;simp;omega
 rw[hc]at HHC
 have HCU:Hid (∀ W,Below Y.heap.size Y W->Calls Try.prog 108 #[drV a cap C loops gF cF gT cT,.int .i64 (x:Nat)] W fun e w'=>e=.returned (.bool true)/\Below W.heap.size W w'):=fun W hW=>by
  have:=curled_is a cap C loops gF cF gT cT x W hm (hd.on (HBY.out.trans (hW.mono (by omega))))
  rw[h]at this
  exact this
 obtain⟨D,hD⟩:∃ D,takC C [x]=D:=⟨_,rfl⟩
 obtain⟨lo,hlo⟩:∃ l,takL C loops [x]=l:=⟨_,rfl⟩
 have HWI:Hid (∀ (W:World) (g cG:Nat),Below Y.heap.size Y W->GonAt W g [x]->Calls Try.prog 109 #[drV a cap C loops gF cF gT cT,.slice (some ⟨g,0,none⟩) 1 cG] W fun e w'=>∃ a2 c2,e=.returned (.agg #[.slice a2 D.length c2,.int .i64 lo])/\w'.ownsRow W.heap.size 71 5 (.slice a2 D.length c2) D.length (crossCells D)/\Below W.heap.size W w'):=fun W g cG hW hg=>by
  have:=without_yes a cap C loops gF cF gT cT g cG [x] W hm (hd.on (HBY.out.trans (hW.mono (by omega)))) (by simp) hg hL
  rw[hD,hlo]at this
  exact this
 rw[hD,hlo]
 unfold drV at HHC HCU HWI ⊢
 have cpl0:=bm_cells (HCE.out Y (Below.refl _ _))
 have pZ:=hid_of (HCE.out Y (Below.refl _ _)).1.2.2
 clear h hc hm hd hL
 go_enter Try.func89,Try.ntmps89
 go_upto_region 2 with(first
  |(go_at_call 41;refine(need_ok 3 _).mono ?_;rintro e9 w4 ⟨rfl,e4⟩;obtain rfl:=e4.symm)
  | (go_at_call 107; refine HHC.out.mono ?_; rintro e9 w3 ⟨rfl, hb3⟩
     have HB3:=hid_of hb3
     have cql0:=bm_cells (HCE.out w3 (hb3))
     have qZ:=hid_of (HCE.out w3 (hb3)).1.2.2
     clear hb3))
 go_upto_region 3 with(first
  |(go_at_call 41;refine(need_ok 8 _).mono ?_;rintro e9 w4 ⟨rfl,e4⟩;obtain rfl:=e4.symm)
  | (go_at_call 108; refine (HCU.out _ HB3.out).mono ?_; rintro e9 w5 ⟨rfl, hb5⟩
     have HB5:=hid_of (HB3.out.trans (hb5.mono HB3.out.size))
     have csl0:=bm_cells (HCE.out w5 (HB5.out))
     have sZ:=hid_of (HCE.out w5 (HB5.out)).1.2.2
     clear hb5))
 have hs5:=HB5.out.size
 have HG6:Hid (GonAt (w5.alloc (.cells #[.int .i64 (x:Nat)] 3)) w5.heap.size [x]):=⟨by simp,fun i hi=>by
  obtain rfl:i=0:=by simpa using hi
  exact block_cell (alloc_at rfl) rfl⟩
 have HB6:Hid (Below Y.heap.size Y (w5.alloc (.cells #[.int .i64 (x:Nat)] 3))):=HB5.out.alloc hs5 _
 go_wp2_with (go_at_call 109;refine(HWI.out _ _ _ HB6.out HG6.out).mono ?_;rintro e9 w7 ⟨a2,c2,rfl,ho7,hb7⟩
              have HO7:=hid_of ho7
              have HB7:=hid_of (HB6.out.trans (hb7.mono HB6.out.size))
              have hs7:=hb7.size
              have ctl0:=bm_cells (HCE.out w7 (HB7.out))
              have tZ:=hid_of (HCE.out w7 (HB7.out)).1.2.2
              clear ho7 hb7)
 have hZ:=st2D (a:=.slice a2 D.length c2) (b:=.int .i64 lo) tZ.out
 have x0:=block_cell (i:=0) (v:=.slice a2 D.length c2) hZ rfl
 have x1:=block_cell (i:=1) (v:=.int .i64 lo) hZ rfl
 refine bodyPost_ret (v:=.agg #[.slice a2 D.length c2,.int .i64 lo]) (by simp[results,Try.results89,go_sem,x0,x1]) rfl ⟨a2,c2,rfl,?_,?_⟩
 · exact own_low (own_two HO7.out (by have:=HB6.out.size;simp at this ⊢;omega) _ _) (by have:=HB6.out.size;simp at this ⊢;omega)
 · exact((HBY.out.trans (HB7.out.mono (by omega))).setCell (p:=⟨w.heap.size+1+1,0,none⟩) (by simp only;omega) _).setCell (p:=⟨w.heap.size+1+1,1,none⟩) (by simp only;omega) _
end Go.Proofs.Ytagaajlbkfkaiaa
/- Moves: mathematics between the program and the document's answer: curls, layers of a triangle, darts on one face, the crossings of a push. -/
namespace Go.Proofs.Ytagaajlbkfkaiaa
theorem en_spot {C:List Cr} {loops:Int} (hm:mayD C loops=true) (k s:Nat) (hk:k<C.length) (hs:s<4):∃ x:Nat,1<=x/\x<=2*C.length/\(C.getD k Cr.none).arc s=(x:Int)/\enC C x ((C.getD k Cr.none).comes s)=k/\enS C x ((C.getD k Cr.none).comes s)=s:=by
 obtain⟨h1,h2,-⟩:=en_one hm k s hk hs
 have e:(C.getD k Cr.none).arc s=((((C.getD k Cr.none).arc s).toNat:Nat):Int):=by omega
 have h:=end_one hm _ h1 h2 _ k s hk hs e rfl
 refine⟨_,h1,h2,e,?_,?_⟩
 · unfold enC
   rw[h]
   simp
 · unfold enS
   rw[h]
   simp
theorem curl_same {C:List Cr} {loops:Int} (hm:mayD C loops=true) (k:Nat) (hk:k<C.length):caB C k=cuB C k:=by
 rw[Bool.eq_iff_iff,cuB_iff]
 constructor
 · intro h
   unfold caB at h
   rw[List.any_eq_true]at h
   obtain⟨s,hs,e⟩:=h
   have hs4:s<4:=List.mem_range.1 hs
   have e:=of_decide_eq_true e
   obtain⟨x,h1,h2,e1,e2,e3⟩:=en_spot hm k s hk hs4
   obtain⟨y,-,-,f1,f2,f3⟩:=en_spot hm k ((s+1)%4) hk (by omega)
   have hxy:y=x:=by omega
   rw[hxy]at f2 f3
   refine⟨x,h1,h2,?_⟩
   unfold crlB
   simp only[Bool.and_eq_true,decide_eq_true_eq,Bool.not_eq_true',decide_eq_false_iff_not]
   cases p:(C.getD k Cr.none).comes s<;>cases q:(C.getD k Cr.none).comes ((s+1)%4)<;>rw[p]at e2 e3<;>rw[q]at f2 f3
   · exfalso
     omega
   · exact⟨⟨e2,f2⟩,by omega⟩
   · exact⟨⟨f2,e2⟩,by omega⟩
   · exfalso
     omega
 · rintro⟨x,h1,h2,h⟩
   unfold crlB at h
   simp only[Bool.and_eq_true,decide_eq_true_eq,Bool.not_eq_true',decide_eq_false_iff_not]at h
   obtain⟨⟨a1,a2⟩,a3⟩:=h
   obtain⟨-,-,b3,b4,b5⟩:=en_may hm x false h1 h2
   obtain⟨-,-,c3,c4,c5⟩:=en_may hm x true h1 h2
   rw[a1]at b4 b5
   rw[a2]at c4 c5
   unfold caB
   rw[List.any_eq_true]
   have hne:enS C x false≠enS C x true:=fun e=>by
    rw[e,c5]at b5
    exact absurd b5 (by simp)
   have hor:enS C x true=(enS C x false+1)%4∨enS C x false=(enS C x true+1)%4:=by omega
   rcases hor with e|e
   · exact⟨enS C x false,List.mem_range.2 b3,decide_eq_true (by rw[<-e,b4,c4])⟩
   · exact⟨enS C x true,List.mem_range.2 c3,decide_eq_true (by rw[<-e,b4,c4])⟩
theorem fd_spot {C:List Cr} {loops:Int} (hm:mayD C loops=true) (j:Nat) (h1:1<=j) (h2:j<=4*C.length):enC C (dA (fd C j)) (dB (fd C j))=dC C j/\enS C (dA (fd C j)) (dB (fd C j))=(dS C j+3)%4:=by
 obtain⟨a1,a2,a3,a4⟩:=fd_may hm j h1 h2
 obtain⟨-,b2,b3⟩:=d_may hm j h1 h2
 have hr:=dA_le a3 a4
 have h:=end_one hm _ hr.1 hr.2 _ (dC C j) ((dS C j+3)%4) b2 (by omega) a1 a2
 constructor
 · unfold enC
   rw[h]
   simp
 · unfold enS
   rw[h]
   exact Int.toNat_natCast _
theorem hgt_dart (C:List Cr) (j:Nat):hgt C (dA j)=dS C j%2+enS C (dA j) (dB j)%2:=by
 unfold hgt dS
 cases dB j with
 |false=>rfl
 |true=>exact Nat.add_comm _ _
theorem hgt_le (C:List Cr) (x:Nat):hgt C x<3:=by
 unfold hgt
 omega
theorem tri_sum {C:List Cr} {loops:Int} (hm:mayD C loops=true) {x y z:Nat} (hx:1<=x/\x<=4*C.length) (hy:1<=y/\y<=4*C.length) (hz:1<=z/\z<=4*C.length) (e1:y=fd C x) (e2:z=fd C y) (e3:x=fd C z):hgt C (dA x)+hgt C (dA y)+hgt C (dA z)=3:=by
 have f1:=(fd_spot hm x hx.1 hx.2).2
 have f2:=(fd_spot hm y hy.1 hy.2).2
 have f3:=(fd_spot hm z hz.1 hz.2).2
 rw[<-e1]at f1
 rw[<-e2]at f2
 rw[<-e3]at f3
 rw[hgt_dart,hgt_dart,hgt_dart,f1,f2,f3]
 omega
theorem top_hgt (C:List Cr) (x:Nat):(hiB C x false&&hiB C x true)=decide (hgt C x=2):=by
 unfold hiB hgt
 rw[Bool.eq_iff_iff]
 simp only[Bool.and_eq_true,decide_eq_true_eq]
 omega
theorem bot_hgt (C:List Cr) (x:Nat):(!hiB C x false&&!hiB C x true)=decide (hgt C x=0):=by
 unfold hiB hgt
 rw[Bool.eq_iff_iff]
 simp only[Bool.and_eq_true,Bool.not_eq_true',decide_eq_true_eq,decide_eq_false_iff_not]
 omega
def cnt3 (q a b c:Nat):Nat:=(if a=q then 1 else 0)+(if b=q then 1 else 0)+(if c=q then 1 else 0)
theorem tri_nums:∀ a,a<3->∀ b,b<3->∀ c,c<3->a+b+c=3->((decide (a=2)||(decide (b=2)||(decide (c=2)||false)))&&(decide (a=0)||(decide (b=0)||(decide (c=0)||false))))=((decide (cnt3 0 a b c=1)&&decide (cnt3 1 a b c=1))&&decide (cnt3 2 a b c=1)):=by decide
theorem tri_same {C:List Cr} {loops:Int} (hm:mayD C loops=true) {x y z:Nat} (hx:1<=x/\x<=4*C.length) (hy:1<=y/\y<=4*C.length) (hz:1<=z/\z<=4*C.length) (e1:y=fd C x) (e2:z=fd C y) (e3:x=fd C z):
    (topB C [x,y,z]&&botB C [x,y,z])=((decide (cnt3 0 (hgt C (dA x)) (hgt C (dA y)) (hgt C (dA z))=1)&&decide (cnt3 1 (hgt C (dA x)) (hgt C (dA y)) (hgt C (dA z))=1))&&decide (cnt3 2 (hgt C (dA x)) (hgt C (dA y)) (hgt C (dA z))=1)):=by
 have h:=tri_nums _ (hgt_le C (dA x)) _ (hgt_le C (dA y)) _ (hgt_le C (dA z)) (tri_sum hm hx hy hz e1 e2 e3)
 unfold topB botB
 simp only[List.any_cons,List.any_nil,top_hgt,bot_hgt]
 exact h
theorem tri_ring {C:List Cr} {loops:Int} (hm:mayD C loops=true) {l:List Nat} (hl:l∈facesM C) (h3:l.length=3):∃ x y z,l=[x,y,z]/\(1<=x/\x<=4*C.length)/\(1<=y/\y<=4*C.length)/\(1<=z/\z<=4*C.length)/\y=fd C x/\z=fd C y/\x=fd C z:=by
 have hc:=(rings_closed (fd_closed hm) (fun a b p q r s t=>fd_inj hm a b p q r s t) (4*C.length) (Nat.le_refl _)).2.2 l hl
 have hr:=(walksTo_mem (fd_closed hm) (4*C.length) (Nat.le_refl _) l hl).2.2
 match l,h3 with
 |[x,y,z],_=>
  refine⟨x,y,z,rfl,hr x (by simp),hr y (by simp),hr z (by simp),?_,?_,?_⟩
  · exact hc.1 0 (by simp)
  · exact hc.1 1 (by simp)
  · exact hc.2.symm
def ofB (C:List Cr) (u v:Nat):Bool:=(facesM C).any fun l=>decide (u∈l)&&decide (v∈l)
theorem one_face {C:List Cr} (u v:Nat) (h1:1<=u) (h2:u<=4*C.length) (h3:1<=v) (h4:v<=4*C.length):ofB C u v=true↔fo C u=fo C v:=by
 unfold ofB
 rw[List.any_eq_true]
 constructor
 · rintro⟨l,hl,h⟩
   simp only[Bool.and_eq_true,decide_eq_true_eq]at h
   obtain⟨i,hi,e⟩:=List.getElem_of_mem hl
   have e2:(facesM C).getD i []=l:=by rw[List.getD_eq_getElem?_getD,List.getElem?_eq_getElem hi];exact e
   have a:=(pt_mem (L:=facesM C) (walks_once (fd C) (4*C.length) u h1 h2) hi).1 (by rw[e2];exact h.1)
   have b:=(pt_mem (L:=facesM C) (walks_once (fd C) (4*C.length) v h3 h4) hi).1 (by rw[e2];exact h.2)
   exact a.trans b.symm
 · intro e
   have hi:=fo_lt (C:=C) u h1 h2
   refine⟨(facesM C).getD (fo C u) [],?_,?_⟩
   · rw[List.getD_eq_getElem?_getD,List.getElem?_eq_getElem hi]
     exact List.getElem_mem hi
   · simp only[Bool.and_eq_true,decide_eq_true_eq]
     exact⟨(pt_mem (L:=facesM C) (walks_once (fd C) (4*C.length) u h1 h2) hi).2 rfl,(pt_mem (L:=facesM C) (walks_once (fd C) (4*C.length) v h3 h4) hi).2 e.symm⟩
def laidX (e n w s:Int) (north west standing:Bool):Cr:=
 if standing then(if west then⟨e,n,w,s,north⟩ else⟨w,s,e,n,!north⟩) else(if north then⟨s,e,n,w,!west⟩ else⟨n,w,s,e,west⟩)
theorem push_p (n ua va:Int) (ub vb ov:Bool):crossX (if ub then(2*n+1,2*n+2) else(ua,2*n+1)) (if vb then(va,2*n+3) else(2*n+3,2*n+4)) ov (ov==(ub==vb))=
    laidX (2*n+3) (2*n+1) (if vb then va else 2*n+4) (if ub then 2*n+2 else ua) (!ub) (!vb) ov:=by
 cases ub<;>cases vb<;>cases ov<;>rfl
theorem push_q (n ua va:Int) (ub vb ov:Bool):crossX (if ub then(ua,2*n+1) else(2*n+1,2*n+2)) (if vb then(2*n+3,2*n+4) else(va,2*n+3)) ov (!(ov==(ub==vb)))=
    laidX (if vb then 2*n+4 else va) (2*n+1) (2*n+3) (if ub then ua else 2*n+2) ub (!vb) ov:=by
 cases ub<;>cases vb<;>cases ov<;>rfl
theorem putF_comm (F:Nat->Option Int) (s t:Nat) (v w:Int) (h:s≠t):putF (putF F s v) t w=putF (putF F t w) s v:=by
 funext z
 unfold putF
 by_cases h1:z=t
 · have h2:¬ z=s:=fun e=>h (e.symm.trans h1)
   rw[if_pos h1,if_neg h2,if_pos h1]
 · by_cases h2:z=s
   · rw[if_neg h1,if_pos h2,if_pos h2]
   · rw[if_neg h1,if_neg h2,if_neg h2,if_neg h1]
def slF (C:List Cr) (F:Nat->Option Int) (x:Nat):Nat->Option Int:=
 putF (putF (putF (putF F (4*enC C x false+4+(enS C x false+2)%4) (x:Int)) (4*enC C x false+4+enS C x false) ((C.getD (enC C x true) Cr.none).arc ((enS C x true+2)%4))) (4*enC C x true+4+enS C x true) ((C.getD (enC C x false) Cr.none).arc ((enS C x false+2)%4))) (4*enC C x true+4+(enS C x true+2)%4) (x:Int)
def slL (C D:List Cr) (x:Nat):List Cr:=
 setL (setL (setL (setL D (enC C x true) (enS C x true) ((C.getD (enC C x false) Cr.none).arc ((enS C x false+2)%4))) (enC C x true) ((enS C x true+2)%4) (x:Int)) (enC C x false) ((enS C x false+2)%4) (x:Int)) (enC C x false) (enS C x false) ((C.getD (enC C x true) Cr.none).arc ((enS C x true+2)%4))
theorem slL_len (C D:List Cr) (x:Nat):(slL C D x).length=D.length:=by
 unfold slL
 rw[setL_len,setL_len,setL_len,setL_len]
theorem slide_spots {C:List Cr} {loops:Int} (hm:mayD C loops=true) (F:Nat->Option Int) (x:Nat) (h1:1<=x) (h2:x<=2*C.length) (hne:enC C x false≠enC C x true):relN (slF C F x) C C.length=slL C (relN F C C.length) x:=by
 obtain⟨-,a2,a3,-,-⟩:=en_may hm x false h1 h2
 obtain⟨-,b2,b3,-,-⟩:=en_may hm x true h1 h2
 unfold slF slL
 rw[putF_comm _ (4*enC C x false+4+enS C x false) (4*enC C x true+4+enS C x true) _ _ (by omega),
  putF_comm _ (4*enC C x false+4+(enS C x false+2)%4) (4*enC C x true+4+enS C x true) _ _ (by omega),
  putF_comm _ (4*enC C x false+4+enS C x false) (4*enC C x true+4+(enS C x true+2)%4) _ _ (by omega),
  putF_comm _ (4*enC C x false+4+(enS C x false+2)%4) (4*enC C x true+4+(enS C x true+2)%4) _ _ (by omega)]
 rw[relN_put _ _ _ _ _ _ a2 a3,relN_put _ _ _ _ _ _ a2 (by omega),relN_put _ _ _ _ _ _ b2 (by omega),relN_put _ _ _ _ _ _ b2 b3]
theorem tri_ne {C:List Cr} {loops:Int} (hm:mayD C loops=true) {x y:Nat} (hx:1<=x/\x<=4*C.length) (e1:y=fd C x) (hne:dC C x≠dC C y):enC C (dA y) false≠enC C (dA y) true:=by
 have f1:=(fd_spot hm x hx.1 hx.2).1
 rw[<-e1]at f1
 unfold dC at hne
 unfold dC at f1
 cases h:dB y with
 |false=>
  rw[h]at f1 hne
  rw[f1]
  exact hne
 |true=>
  rw[h]at f1 hne
  rw[f1]
  exact fun e=>hne e.symm
end Go.Proofs.Ytagaajlbkfkaiaa
