/- Moves: the walk of bench.curl, where it may be done. Made by genmv7.py. -/
import Derived.Test.YtagaajlbkfkaiaaMV6P
import Derived.Test.YtagaajlbkfkaiaaTkhP
import Derived.Deep.RegionHeld
namespace Go.Proofs.Ytagaajlbkfkaiaa
open Go.RowKit Go.Maps
set_option maxHeartbeats 8000000
set_option maxRecDepth 100000
def spN (C:List Cr) (x:Nat):Nat:=4*toC C x+4+toS C x
theorem sp_eq (C:List Cr) (x:Nat) (h:toS C x<4):spV (spN C x)=.agg #[.int .i64 (toC C x:Nat),.int .i64 (toS C x:Nat)]:=by
 unfold spV spN
 rw[show(4*toC C x+4+toS C x) / 4=toC C x+1 by omega,show(4*toC C x+4+toS C x)%4=toS C x by omega]
 rw[show(((toC C x+1:Nat):Int)-1)=(toC C x:Int) by omega]
theorem and_bits {y:Nat} (h:y<4):(bits BinOp.and IntKind.i64 (y:Int) 2 != 0)=decide (2<=y)/\(bits BinOp.and IntKind.i64 (y:Int) 1 != 0)=decide (y%2=1):=by
 match y,h with
 |0,_=>decide
 |1,_=>decide
 |2,_=>decide
 |3,_=>decide
theorem block_cell5 {W:World} {b:Nat} {e:TypeId} {a0 a1 a2 a3 a4:Value} (h:W.heap[b]?=some (.cells #[a0,a1,a2,a3,a4] e (0,0))):∀ j u,[a0,a1,a2,a3,a4][j]?=some u->W.cell? ((⟨b,0,none⟩:Addr).add j)=some u:=by
 intro j u hj
 rw[Addr.add_lit,Nat.zero_add]
 exact QQ0 h (by simpa using hj)
theorem dr_grown {w w5:World} {a:Option Addr} {cap:Nat} {C:List Cr} {gF gT:Nat} {o:Obj} (h:Dr w a cap C gF gT) (hg:(w.alloc o).grownBy w5 (some w.heap.size)):Dr w5 a cap C gF gT:=
 h.on (((Below.refl _ _).alloc (Nat.le_refl _) o).grown hg (by simp) (fun q hq=>by have:=Option.some.inj hq;omega))
def one1 (s:Nat) (y:Int):Nat->Option Int:=fun z=>if z=s then some y else none
theorem curl_yes1 (a:Option Addr) (cap:Nat) (C:List Cr) (loops:Int) (gF cF gT cT:Nat) (k ua va:Int) (x y:Nat) (ub vb ov:Bool) (w:World) (hm:mayD C loops=true) (hx1:1<=x) (hx2:x<=2*C.length) (hy:y<4) (hn:C.length<16) (hd:Dr w a cap C gF gT):
    Calls Try.prog 88 #[drV a cap C loops gF cF gT cT, mvV k (x : Nat) (y : Nat) ua ub va vb ov] w fun e w' => ∃ a' c', e = .returned (.agg #[.slice a' (C.length + 1) c', .int .i64 loops]) ∧ w'.ownsRow w.heap.size 71 5 (.slice a' (C.length + 1) c') (C.length + 1) (QQ4 (relN (one1 (spN C x) ((2 * C.length + 2 : Nat) : Int)) C C.length ++ [QZ1 ((x : Nat), ((2 * C.length + 1 : Nat) : Int)) (((2 * C.length + 1 : Nat) : Int), ((2 * C.length + 2 : Nat) : Int)) (decide (2 ≤ y)) (decide (y % 2 = 1))])) ∧ Below w.heap.size w w' := by
 have hl:C.length<=16:=by omega
 have hh:hasB C (x:Nat)=true:=by simp[hasB];omega
 have HHS:Hid (∀ W,Calls Try.prog 104 #[drV a cap C loops gF cF gT cT,.int .i64 (x:Nat)] W fun e w'=>e=.returned (.bool true)/\Below W.heap.size W w'):=fun W=>by have:=has_any a cap C loops gF cF gT cT x W hl;rw[hh]at this;exact this
 have HD:Hid (Dr w a cap C gF gT):=hd
 have HM:Hid (mayD C loops=true):=hm
 have HTT:Hid (toC C x<C.length/\toS C x<4):=⟨(QJ0 hm x hx1 hx2).2.1,(QJ0 hm x hx1 hx2).2.2.1⟩
 have HRA:=QQ1 (fun(w:World) (gF cF gT cT:Nat) (b m:Nat) (F:Nat->Option Int)=>relaid_any a cap C loops gF cF gT cT b m F w hm)
 unfold mvV
 unfold drV at HHS HRA ⊢
 obtain⟨Y,hY⟩:∃ Y,Y=((w.alloc (.cells #[.slice a C.length cap,.int .i64 loops,.slice (some ⟨gF,0,none⟩) (2*C.length+1) cF,.slice (some ⟨gT,0,none⟩) (2*C.length+1) cT] 63)).alloc (.cells #[.int .i64 k,.int .i64 (x:Nat),.int .i64 (y:Nat),.int .i64 ua,.bool ub,.int .i64 va,.bool vb,.bool ov] 28)).alloc (.cells #[.slice none 0 0,.int .i64 0] 24):=⟨_,rfl⟩
 have HY:Hid (Y=((w.alloc (.cells #[.slice a C.length cap,.int .i64 loops,.slice (some ⟨gF,0,none⟩) (2*C.length+1) cF,.slice (some ⟨gT,0,none⟩) (2*C.length+1) cT] 63)).alloc (.cells #[.int .i64 k,.int .i64 (x:Nat),.int .i64 (y:Nat),.int .i64 ua,.bool ub,.int .i64 va,.bool vb,.bool ov] 28)).alloc (.cells #[.slice none 0 0,.int .i64 0] 24)):=hY
 have HBY:Hid (Below w.heap.size w Y):=(by rw[hY];exact QV1 _ _ _ _:Below w.heap.size w Y)
 have HT0:Hid (Y.heap[w.heap.size]?=some (.cells #[.slice a C.length cap,.int .i64 loops,.slice (some ⟨gF,0,none⟩) (2*C.length+1) cF,.slice (some ⟨gT,0,none⟩) (2*C.length+1) cT] 63 (0,0))):=(by rw[hY];exact alloc_old (alloc_old (alloc_at rfl)):Y.heap[w.heap.size]?=some (.cells #[.slice a C.length cap,.int .i64 loops,.slice (some ⟨gF,0,none⟩) (2*C.length+1) cF,.slice (some ⟨gT,0,none⟩) (2*C.length+1) cT] 63 (0,0)))
 have HT1:Hid (Y.heap[w.heap.size+1]?=some (.cells #[.int .i64 k,.int .i64 (x:Nat),.int .i64 (y:Nat),.int .i64 ua,.bool ub,.int .i64 va,.bool vb,.bool ov] 28 (0,0))):=(by rw[hY];exact alloc_old (alloc_at (by simp)):Y.heap[w.heap.size+1]?=some (.cells #[.int .i64 k,.int .i64 (x:Nat),.int .i64 (y:Nat),.int .i64 ua,.bool ub,.int .i64 va,.bool vb,.bool ov] 28 (0,0)))
 have HT2:Hid (Y.heap[w.heap.size+1+1]?=some (.cells #[.slice none 0 0,.int .i64 0] 24 (0,0))):=(by rw[hY];exact alloc_at (by simp):Y.heap[w.heap.size+1+1]?=some (.cells #[.slice none 0 0,.int .i64 0] 24 (0,0)))
 have hsY:Y.heap.size=w.heap.size+3:=by rw[hY];simp
 clear hY
 have HS:=QQ1 (sp_eq C x)
 have HAB:=QQ1 (and_bits hy)
 rw[show((2*C.length+2:Nat):Int)=2*(C.length:Int)+2 by omega,show((2*C.length+1:Nat):Int)=2*(C.length:Int)+1 by omega]
 obtain⟨z,hz⟩:∃ z,QZ1 ((x:Int),2*(C.length:Int)+1) (2*(C.length:Int)+1,2*(C.length:Int)+2) (decide (2<=y)) (decide (y%2=1))=z:=⟨_,rfl⟩
 have HCX:=QQ1 hz
 rw[hz]
 clear hz
 have hmk:∀ W:World,(Instr.makeMap 151 none).run Try.prog W=.ok (.map (some W.heap.size)) (W.alloc (.map #[] 0)):=fun _=>rfl
 clear hh hd hm
 have hd0:decide ((0:Int)<=(y:Nat))=true:=by simp
 have hd4:decide (((y:Nat):Int)<4)=true:=by simp;omega
 have hd6:decide ((C.length:Int)<16)=true:=by simp;omega
 have hxp:¬ ((x:Nat):Int)=0:=by omega
 go_enter Try.func88,Try.ntmps88
 go_wp2_with (first
  |(go_at_call 105;rw[HAB.out.1,HAB.out.2];refine(crossed_any ((x:Int),2*(C.length:Int)+1) (2*(C.length:Int)+1,2*(C.length:Int)+2) (decide (2<=y)) (decide (y%2=1)) _).mono ?_;rw[HCX.out];rintro e9 w6 ⟨rfl,hb6⟩;refine Hid.out ?_)
  |(go_at_call 41;refine(QZ3 3 _).mono ?_;rintro e9 w4 ⟨rfl,e4⟩;obtain rfl:=e4.symm)
  |(go_at_call 41;refine(QZ3 2 _).mono ?_;rintro e9 w4 ⟨rfl,e4⟩;obtain rfl:=e4.symm)
  | (go_at_call 104; rw [← HY.out]; refine (HHS.out _).mono ?_; rintro e9 w3 ⟨rfl, hb3⟩
     have HB3:Hid (Below Y.heap.size Y w3):=hb3
     have hs3:=hb3.size
     have q0:=(hb3.block _ (by omega)).trans HT0.out
     have q1:=(hb3.block _ (by omega)).trans HT1.out
     have b0:w3.cell? ⟨w.heap.size,0,none⟩=some (.slice a C.length cap):=QQ0 q0 rfl
     have b1:w3.cell? ⟨w.heap.size,1,none⟩=some (.int .i64 loops):=QQ0 q0 rfl
     have b2:w3.cell? ⟨w.heap.size,2,none⟩=some (.slice (some ⟨gF,0,none⟩) (2*C.length+1) cF):=QQ0 q0 rfl
     have b3:w3.cell? ⟨w.heap.size,3,none⟩=some (.slice (some ⟨gT,0,none⟩) (2*C.length+1) cT):=QQ0 q0 rfl
     have m0:w3.cell? ⟨w.heap.size+1,0,none⟩=some (.int .i64 k):=QQ0 q1 rfl
     have m1:w3.cell? ⟨w.heap.size+1,1,none⟩=some (.int .i64 (x:Nat)):=QQ0 q1 rfl
     have m2:w3.cell? ⟨w.heap.size+1,2,none⟩=some (.int .i64 (y:Nat)):=QQ0 q1 rfl
     have m3:w3.cell? ⟨w.heap.size+1,3,none⟩=some (.int .i64 ua):=QQ0 q1 rfl
     have m4:w3.cell? ⟨w.heap.size+1,4,none⟩=some (.bool ub):=QQ0 q1 rfl
     have m5:w3.cell? ⟨w.heap.size+1,5,none⟩=some (.int .i64 va):=QQ0 q1 rfl
     have m6:w3.cell? ⟨w.heap.size+1,6,none⟩=some (.bool vb):=QQ0 q1 rfl
     have m7:w3.cell? ⟨w.heap.size+1,7,none⟩=some (.bool ov):=QQ0 q1 rfl
     have lb:w.heap.size<w3.heap.size:=by omega
     have lm:w.heap.size+1<w3.heap.size:=by omega
     have HDR:Hid (Dr w3 a cap C gF gT):=HD.out.on (HBY.out.trans (hb3.mono (by omega)))
     have hto:=HDR.out.toAt HM.out x hx1 hx2
     obtain⟨w5,hup,hmp,hg5⟩:=(MapS.made w3).put (spN C x) (2*(C.length:Int)+2) (by have:=HTT.out;unfold spN;omega) (by omega) (by omega)
     rw[HS.out HTT.out.2]at hup
     have HMP:=QQ1 hmp
     have HG5:=QQ1 hg5
     have t0:w3.cell? ⟨gT,x*2,none⟩=some (.int .i64 (toC C x:Nat)):=hto.1
     have t1:w3.cell? ⟨gT,x*2+1,none⟩=some (.int .i64 (toS C x:Nat)):=hto.2
     have hltT:=HDR.out.ltT
     have hk5:∀ k,k<w3.heap.size->w5.heap[k]?=w3.heap[k]?:=fun k hk=>(hg5.block k (by simp;omega) (fun e=>by have:=Option.some.inj e;omega)).trans ((World.grownBy_alloc w3 _ none).block k hk (by simp))
     have p0:=(hk5 _ (by omega)).trans q0
     have p1:=(hk5 _ (by omega)).trans q1
     have hs5:w3.heap.size+1<=w5.heap.size:=by have:=hg5.size;simpa using this
     have v0:w5.cell? ⟨w.heap.size,0,none⟩=some (.slice a C.length cap):=QQ0 p0 rfl
     have v1:w5.cell? ⟨w.heap.size,1,none⟩=some (.int .i64 loops):=QQ0 p0 rfl
     have v2:w5.cell? ⟨w.heap.size,2,none⟩=some (.slice (some ⟨gF,0,none⟩) (2*C.length+1) cF):=QQ0 p0 rfl
     have v3:w5.cell? ⟨w.heap.size,3,none⟩=some (.slice (some ⟨gT,0,none⟩) (2*C.length+1) cT):=QQ0 p0 rfl
     have u0:w5.cell? ⟨w.heap.size+1,0,none⟩=some (.int .i64 k):=QQ0 p1 rfl
     have u1:w5.cell? ⟨w.heap.size+1,1,none⟩=some (.int .i64 x):=QQ0 p1 rfl
     have u2:w5.cell? ⟨w.heap.size+1,2,none⟩=some (.int .i64 y):=QQ0 p1 rfl
     have u3:w5.cell? ⟨w.heap.size+1,3,none⟩=some (.int .i64 ua):=QQ0 p1 rfl
     have u4:w5.cell? ⟨w.heap.size+1,4,none⟩=some (.bool ub):=QQ0 p1 rfl
     have u5:w5.cell? ⟨w.heap.size+1,5,none⟩=some (.int .i64 va):=QQ0 p1 rfl
     have u6:w5.cell? ⟨w.heap.size+1,6,none⟩=some (.bool vb):=QQ0 p1 rfl
     have u7:w5.cell? ⟨w.heap.size+1,7,none⟩=some (.bool ov):=QQ0 p1 rfl
     have HK5:=QQ1 hk5
     have HQ0:=QQ1 q0
     have HR3:=QQ1 ((hb3.block _ (by omega)).trans HT2.out)
     clear hmp hg5 hto hk5 p0 p1
     clear hb3 q0 q1))
 refine Lib.hid ?_
 have HB6:Hid (Below w5.heap.size w5 w6):=hb6
 have hs6:=hb6.size
 clear hb6
 clear b0 b1 b2 b3 m0 m1 m2 m3 m4 m5 m6 m7 t0 t1 v0 v1 v2 v3 u0 u1 u2 u3 u4 u5 u6 u7 hup hmk
 obtain⟨V,hV⟩:∃ V,V=w6.alloc (.cells #[.int .i64 z.a,.int .i64 z.b,.int .i64 z.c,.int .i64 z.d,.bool z.plus] 71):=⟨_,rfl⟩
 have HV:=QQ1 hV
 have hsV:V.heap.size=w6.heap.size+1:=by rw[hV];simp
 have HBV:Hid (Below w5.heap.size w5 V):=(by rw[hV];exact HB6.out.alloc (by omega) _:Below w5.heap.size w5 V)
 have HQ5:=QQ1 ((HK5.out _ (by omega)).trans HQ0.out)
 have HR5:=QQ1 ((HK5.out _ (by omega)).trans HR3.out)
 have HD5:Hid (Dr w5 a cap C gF gT):=(dr_grown HDR.out HG5.out)
 have HBW5:Hid (Below w.heap.size w w5):=(((HBY.out.trans (HB3.out.mono (by omega))).alloc (by omega) _).grown HG5.out (by simp;omega) (fun q hq=>by have:=Option.some.inj hq;omega))
 have HC:Hid (V.heap[w6.heap.size]?=some (.cells #[.int .i64 z.a,.int .i64 z.b,.int .i64 z.c,.int .i64 z.d,.bool z.plus] 71 (0,0))):=(by rw[hV];exact alloc_at rfl:V.heap[w6.heap.size]?=some (.cells #[.int .i64 z.a,.int .i64 z.b,.int .i64 z.c,.int .i64 z.d,.bool z.plus] 71 (0,0)))
 clear hV
 have HSV:Hid (∀ W,Below V.heap.size V W->(fun W:World=>W.cell? ⟨w.heap.size,0,none⟩=some (.slice a C.length cap)/\W.cell? ⟨w.heap.size,1,none⟩=some (.int .i64 loops)/\W.cell? ⟨w.heap.size,2,none⟩=some (.slice (some ⟨gF,0,none⟩) (2*C.length+1) cF)/\W.cell? ⟨w.heap.size,3,none⟩=some (.slice (some ⟨gT,0,none⟩) (2*C.length+1) cT)/\W.cell? ⟨w6.heap.size,0,none⟩=some (.int .i64 z.a)/\W.cell? ⟨w6.heap.size,1,none⟩=some (.int .i64 z.b)/\W.cell? ⟨w6.heap.size,2,none⟩=some (.int .i64 z.c)/\W.cell? ⟨w6.heap.size,3,none⟩=some (.int .i64 z.d)/\W.cell? ⟨w6.heap.size,4,none⟩=some (.bool z.plus)) W):=fun W hW=>by
  have hV5:=HBV.out.trans (hW.mono (by omega))
  have k0:=(hV5.block _ (by omega)).trans HQ5.out
  have k1:=(hW.block _ (by omega)).trans HC.out
  exact⟨QQ0 k0 rfl,QQ0 k0 rfl,QQ0 k0 rfl,QQ0 k0 rfl,QQ0 k1 rfl,QQ0 k1 rfl,QQ0 k1 rfl,QQ0 k1 rfl,QQ0 k1 rfl⟩
 have HRL:=QQ1 (fun(W:World) (hW:Below V.heap.size V W)=>HRA.out W gF cF gT cT _ _ _ (HD5.out.on (HBV.out.trans (hW.mono (by omega)))) (HMP.out.kept (QQ5 (HBV.out.trans (hW.mono (by omega))) none) (by simp)))
 have HRV:Hid (V.heap[w.heap.size+1+1]?=some (.cells #[.slice none 0 0,.int .i64 0] 24 (0,0))):=(HBV.out.block _ (by omega)).trans HR5.out
 have HDV:Hid (Below V.heap.size V V.drew):=(Below.refl _ _).drew
 have HBW:Hid (Below w.heap.size w V):=HBW5.out.trans (HBV.out.mono (by omega))
 obtain⟨i0,hi,hz0,hz1,hz2⟩:=info_parts infoCross
 go_wp2
 rw[<-HV.out]
 refine wp_region_held_drew (S:=fun W:World=>W.cell? ⟨w.heap.size,0,none⟩=some (.slice a C.length cap)/\W.cell? ⟨w.heap.size,1,none⟩=some (.int .i64 loops)/\W.cell? ⟨w.heap.size,2,none⟩=some (.slice (some ⟨gF,0,none⟩) (2*C.length+1) cF)/\W.cell? ⟨w.heap.size,3,none⟩=some (.slice (some ⟨gT,0,none⟩) (2*C.length+1) cT)/\W.cell? ⟨w6.heap.size,0,none⟩=some (.int .i64 z.a)/\W.cell? ⟨w6.heap.size,1,none⟩=some (.int .i64 z.b)/\W.cell? ⟨w6.heap.size,2,none⟩=some (.int .i64 z.c)/\W.cell? ⟨w6.heap.size,3,none⟩=some (.int .i64 z.d)/\W.cell? ⟨w6.heap.size,4,none⟩=some (.bool z.plus)) (by kernel_rfl) (HSV.out _ HDV.out) (fun hHeld=>?_)
 refine tk 0 (h:=?_)
 refine tk 1 (h:=?_)
 refine tk 3 (h:=?_)
 refine tk 6 (h:=?_)
 try simp only[Act.put]
 refine wpAnyH_ready (rs:=[2,4]) (by kernel_rfl) (by simp) ?_
 refine AllReadyH.cons rfl (fun K hK=>?A) (AllReadyH.cons rfl (fun K hK=>?B) AllReadyH.nil)
 case' A=>
  go_simp
  go_wp2_with (go_at_call 106;refine(HRL.out _ HDV.out).mono ?_;rintro e9 wA ⟨a9,c9,rfl,hoA,hbA⟩)
  have HA:Hid (Below V.heap.size V wA):=(HDV.out).trans (hbA.mono (by simp))
  have HO:=QQ1 (QX4 (B':=V.heap.size) hoA (by simp))
  refine hK.out _ _ (HSV.out _ HA.out) (fun hHeld=>?_)
  clear hK K
  try simp only[Act.put]
  refine rd1 4 (fun K hK=>?_)
  have HX:Hid (Below V.heap.size V (wA.alloc (.cells #[.int .i64 z.a,.int .i64 z.b,.int .i64 z.c,.int .i64 z.d,.bool z.plus] 71))):=HA.out.alloc HA.out.size _
  go_simp
  refine hK.out _ _ (HSV.out _ HX.out) (fun hHeld=>?_)
  clear hK K
  try simp only[Act.put]
  refine rd1 5 (fun K hK=>?_)
  refine QK2 rfl (.tmp 100) (.tmp 102) 22 rfl V.heap.size 71 i0 (.agg #[.int .i64 0,.int .i64 0,.int .i64 0,.int .i64 0,.bool false]) 5 40 Try.underlying22 hi hz0 hz1 hz2 rfl (by decide) _ C.length _ (by simp[Act.eval]) (HO.out.alloc _) ⟨wA.heap.size,0,none⟩ 1 1 [.int .i64 z.a,.int .i64 z.b,.int .i64 z.c,.int .i64 z.d,.bool z.plus] (by simp[Act.eval]) rfl (new_cell5 _ _ _ _ _ _ _) (cells_one [z]) (by unfold maxLen;omega) (by omega) (by have:=HA.out.size;simp<;>omega) ?_
 case' B=>
  have HX0:Hid (Below V.heap.size V (V.drew.alloc (.cells #[.int .i64 z.a,.int .i64 z.b,.int .i64 z.c,.int .i64 z.d,.bool z.plus] 71))):=HDV.out.alloc (Nat.le_refl _) _
  have HNW:Hid ((V.drew.alloc (.cells #[.int .i64 z.a,.int .i64 z.b,.int .i64 z.c,.int .i64 z.d,.bool z.plus] 71)).heap[V.heap.size]?=some (.cells #[.int .i64 z.a,.int .i64 z.b,.int .i64 z.c,.int .i64 z.d,.bool z.plus] 71 (0,0))):=(alloc_at rfl:(V.drew.alloc (.cells #[.int .i64 z.a,.int .i64 z.b,.int .i64 z.c,.int .i64 z.d,.bool z.plus] 71)).heap[V.drew.heap.size]?=some (.cells #[.int .i64 z.a,.int .i64 z.b,.int .i64 z.c,.int .i64 z.d,.bool z.plus] 71 (0,0)))
  go_simp
  refine hK.out _ _ (HSV.out _ HX0.out) (fun hHeld=>?_)
  clear hK K
  try simp only[Act.put]
  refine rd1 2 (fun K hK=>?_)
  go_simp
  go_wp2_with (go_at_call 106;refine(HRL.out _ HX0.out).mono ?_;rintro e9 wA ⟨a9,c9,rfl,hoA,hbA⟩)
  have HA:Hid (Below V.heap.size V wA):=(HX0.out).trans (hbA.mono (by simp))
  have HO:=QQ1 (QX4 (B':=V.heap.size) hoA (by simp))
  have HX:Hid (Below V.heap.size V wA):=HA.out
  have HN9:=QQ1 ((hbA.block _ (by simp)).trans HNW.out)
  refine hK.out _ _ (HSV.out _ HA.out) (fun hHeld=>?_)
  clear hK K
  try simp only[Act.put]
  refine rd1 5 (fun K hK=>?_)
  refine QK2 rfl (.tmp 100) (.tmp 102) 22 rfl V.heap.size 71 i0 (.agg #[.int .i64 0,.int .i64 0,.int .i64 0,.int .i64 0,.bool false]) 5 40 Try.underlying22 hi hz0 hz1 hz2 rfl (by decide) _ C.length _ (by simp[Act.eval]) HO.out ⟨V.heap.size,0,none⟩ 1 1 [.int .i64 z.a,.int .i64 z.b,.int .i64 z.c,.int .i64 z.d,.bool z.plus] (by simp[Act.eval]) rfl (block_cell5 HN9.out) (cells_one [z]) (by unfold maxLen;omega) (by omega) (by have:=HA.out.size;simp<;>omega) ?_
 all_goals
  intro v8 w8 hown8 hg8
  have H8:Hid (Below V.heap.size V w8):=(HX.out.grown hg8 HX.out.size (fun q hq=>(HO.out.lt q hq).1))
  obtain⟨a8,c8,rfl⟩:=QX5 hown8
  have HO8:=QQ1 hown8
  refine hK.out _ _ (HSV.out _ H8.out) (fun hHeld=>?_)
  clear hK K hown8 hg8
  refine tk 7 (h:=?_)
  try simp only[Act.put]
  have q2:=(H8.out.block _ (by omega)).trans HRV.out
  have hs8:=H8.out.size
  have r0:w8.cell? ⟨w.heap.size+1+1,0,none⟩=some (.slice none 0 0):=QQ0 q2 rfl
  have r1:w8.cell? ⟨w.heap.size+1+1,1,none⟩=some (.int .i64 0):=QQ0 q2 rfl
  have z0:w8.frozen? ⟨w.heap.size+1+1,0,none⟩=false:=QQ2 q2
  have z1:w8.frozen? ⟨w.heap.size+1+1,1,none⟩=false:=QQ2 q2
  have l2:w.heap.size+1+1<w8.heap.size:=by omega
  obtain⟨Z,hZ⟩:∃ Z,Z=(w8.setCell ⟨w.heap.size+1+1,0,none⟩ (.slice a8 (C.length+1) c8)).setCell ⟨w.heap.size+1+1,1,none⟩ (.int .i64 loops):=⟨_,rfl⟩
  have HZE:=QQ1 hZ
  have hgZ:w8.grownBy Z (some (w.heap.size+1+1)):=by rw[hZ];exact QQ8 (QQ7 _ _ _ _) (QQ7 _ _ _ _)
  have hZ2:Z.heap[w.heap.size+1+1]?=some (.cells #[.slice a8 (C.length+1) c8,.int .i64 loops] 24 (0,0)):=by rw[hZ,QQ6 (QQ6 q2)];rfl
  have HZB:Hid (Below w.heap.size w Z):=(HBW.out.trans (H8.out.mono (by omega))).grown hgZ (by omega) (fun q hq=>by have:=Option.some.inj hq;omega)
  have HSZ:Hid ((fun W:World=>W.cell? ⟨w.heap.size,0,none⟩=some (.slice a C.length cap)/\W.cell? ⟨w.heap.size,1,none⟩=some (.int .i64 loops)/\W.cell? ⟨w.heap.size,2,none⟩=some (.slice (some ⟨gF,0,none⟩) (2*C.length+1) cF)/\W.cell? ⟨w.heap.size,3,none⟩=some (.slice (some ⟨gT,0,none⟩) (2*C.length+1) cT)/\W.cell? ⟨w6.heap.size,0,none⟩=some (.int .i64 z.a)/\W.cell? ⟨w6.heap.size,1,none⟩=some (.int .i64 z.b)/\W.cell? ⟨w6.heap.size,2,none⟩=some (.int .i64 z.c)/\W.cell? ⟨w6.heap.size,3,none⟩=some (.int .i64 z.d)/\W.cell? ⟨w6.heap.size,4,none⟩=some (.bool z.plus)) Z):=(by
   obtain⟨k0,k1,k2,k3,k4,k5,k6,k7,k8⟩:=HSV.out _ H8.out
   have hn0:some w.heap.size≠some (w.heap.size+1+1):=fun e=>by have:=Option.some.inj e;omega
   have hn1:some w6.heap.size≠some (w.heap.size+1+1):=fun e=>by have:=Option.some.inj e;omega
   have gc {b o:Nat} {v:Option Value} (hb:b<w8.heap.size) (hne:some b≠some (w.heap.size+1+1)) (hc:w8.cell? ⟨b,o,none⟩=v):Z.cell? ⟨b,o,none⟩=v:=by
    rw[<-hc]
    unfold World.cell?
    simp only[]
    rw[hgZ.block b hb hne]
   exact⟨gc (by omega) hn0 k0,gc (by omega) hn0 k1,gc (by omega) hn0 k2,gc (by omega) hn0 k3,gc (by omega) hn1 k4,gc (by omega) hn1 k5,gc (by omega) hn1 k6,gc (by omega) hn1 k7,gc (by omega) hn1 k8⟩)
  have HOZ:=QQ1 (HO8.out.kept hgZ (by
   cases hv:(Value.slice a8 (C.length+1) c8).ownBlock with
   |none=>exact Or.inl rfl
   |some k=>exact Or.inr (fun e=>by have h1:=(HO8.out.lt k hv).1;have h2:=Option.some.inj e;omega)))
  clear hZ hgZ q2
  refine rd1 8 (fun K hK=>?_)
  go_simp
  rw[<-HZE.out]
  refine hK.out _ _ HSZ.out (fun hHeld=>?_)
  clear hK K
  try simp only[Act.put]
  refine wpAnyH_done (by kernel_rfl) ?_ _
  clear hHeld
  go_wp2
  have x0:=QQ0 (i:=0) (v:=.slice a8 (C.length+1) c8) hZ2 rfl
  have x1:=QQ0 (i:=1) (v:=.int .i64 loops) hZ2 rfl
  refine bodyPost_ret (v:=.agg #[.slice a8 (C.length+1) c8,.int .i64 loops]) (by simp[results,Try.results88,go_sem,x0,x1]) rfl ⟨a8,c8,rfl,?_,HZB.out⟩
  have e:∀ L:List Cr,QQ4 (L++[z])=QQ4 L++[.int .i64 z.a,.int .i64 z.b,.int .i64 z.c,.int .i64 z.d,.bool z.plus]:=fun L=>by simp[QQ4]
  rw[e]
  exact QX4 HOZ.out (by omega)
theorem curl_yes0 (a:Option Addr) (cap:Nat) (C:List Cr) (loops:Int) (gF cF gT cT:Nat) (k ua va:Int) (y:Nat) (ub vb ov:Bool) (w:World) (hm:mayD C loops=true) (hlo:0<loops) (hy:y<4) (hn:C.length<16) (hd:Dr w a cap C gF gT):
    Calls Try.prog 88 #[drV a cap C loops gF cF gT cT, mvV k 0 (y : Nat) ua ub va vb ov] w fun e w' => ∃ a' c', e = .returned (.agg #[.slice a' (C.length + 1) c', .int .i64 (loops - 1)]) ∧ w'.ownsRow w.heap.size 71 5 (.slice a' (C.length + 1) c') (C.length + 1) (QQ4 (relN (fun _ => none) C C.length ++ [QZ1 (((2 * C.length + 1 : Nat) : Int), ((2 * C.length + 2 : Nat) : Int)) (((2 * C.length + 2 : Nat) : Int), ((2 * C.length + 1 : Nat) : Int)) (decide (2 ≤ y)) (decide (y % 2 = 1))])) ∧ Below w.heap.size w w' := by
 have hl:C.length<=16:=by omega
 have hh:hasB C 0=false:=by simp[hasB]
 have hlu:loops<=1000:=by obtain⟨-,-,h3,h4⟩:=QZ2 (QK3 hm);omega
 have HHS:Hid (∀ W,Calls Try.prog 104 #[drV a cap C loops gF cF gT cT,.int .i64 0] W fun e w'=>e=.returned (.bool false)/\Below W.heap.size W w'):=fun W=>by have:=has_any a cap C loops gF cF gT cT 0 W hl;rw[hh]at this;exact this
 have HD:Hid (Dr w a cap C gF gT):=hd
 have HM:Hid (mayD C loops=true):=hm
 have HRA:=QQ1 (fun(w:World) (gF cF gT cT:Nat) (b m:Nat) (F:Nat->Option Int)=>relaid_any a cap C loops gF cF gT cT b m F w hm)
 unfold mvV
 unfold drV at HHS HRA ⊢
 obtain⟨Y,hY⟩:∃ Y,Y=((w.alloc (.cells #[.slice a C.length cap,.int .i64 loops,.slice (some ⟨gF,0,none⟩) (2*C.length+1) cF,.slice (some ⟨gT,0,none⟩) (2*C.length+1) cT] 63)).alloc (.cells #[.int .i64 k,.int .i64 0,.int .i64 (y:Nat),.int .i64 ua,.bool ub,.int .i64 va,.bool vb,.bool ov] 28)).alloc (.cells #[.slice none 0 0,.int .i64 0] 24):=⟨_,rfl⟩
 have HY:Hid (Y=((w.alloc (.cells #[.slice a C.length cap,.int .i64 loops,.slice (some ⟨gF,0,none⟩) (2*C.length+1) cF,.slice (some ⟨gT,0,none⟩) (2*C.length+1) cT] 63)).alloc (.cells #[.int .i64 k,.int .i64 0,.int .i64 (y:Nat),.int .i64 ua,.bool ub,.int .i64 va,.bool vb,.bool ov] 28)).alloc (.cells #[.slice none 0 0,.int .i64 0] 24)):=hY
 have HBY:Hid (Below w.heap.size w Y):=(by rw[hY];exact QV1 _ _ _ _:Below w.heap.size w Y)
 have HT0:Hid (Y.heap[w.heap.size]?=some (.cells #[.slice a C.length cap,.int .i64 loops,.slice (some ⟨gF,0,none⟩) (2*C.length+1) cF,.slice (some ⟨gT,0,none⟩) (2*C.length+1) cT] 63 (0,0))):=(by rw[hY];exact alloc_old (alloc_old (alloc_at rfl)):Y.heap[w.heap.size]?=some (.cells #[.slice a C.length cap,.int .i64 loops,.slice (some ⟨gF,0,none⟩) (2*C.length+1) cF,.slice (some ⟨gT,0,none⟩) (2*C.length+1) cT] 63 (0,0)))
 have HT1:Hid (Y.heap[w.heap.size+1]?=some (.cells #[.int .i64 k,.int .i64 0,.int .i64 (y:Nat),.int .i64 ua,.bool ub,.int .i64 va,.bool vb,.bool ov] 28 (0,0))):=(by rw[hY];exact alloc_old (alloc_at (by simp)):Y.heap[w.heap.size+1]?=some (.cells #[.int .i64 k,.int .i64 0,.int .i64 (y:Nat),.int .i64 ua,.bool ub,.int .i64 va,.bool vb,.bool ov] 28 (0,0)))
 have HT2:Hid (Y.heap[w.heap.size+1+1]?=some (.cells #[.slice none 0 0,.int .i64 0] 24 (0,0))):=(by rw[hY];exact alloc_at (by simp):Y.heap[w.heap.size+1+1]?=some (.cells #[.slice none 0 0,.int .i64 0] 24 (0,0)))
 have hsY:Y.heap.size=w.heap.size+3:=by rw[hY];simp
 clear hY
 have HAB:=QQ1 (and_bits hy)
 rw[show((2*C.length+2:Nat):Int)=2*(C.length:Int)+2 by omega,show((2*C.length+1:Nat):Int)=2*(C.length:Int)+1 by omega]
 obtain⟨z,hz⟩:∃ z,QZ1 (2*(C.length:Int)+1,2*(C.length:Int)+2) (2*(C.length:Int)+2,2*(C.length:Int)+1) (decide (2<=y)) (decide (y%2=1))=z:=⟨_,rfl⟩
 have HCX:=QQ1 hz
 rw[hz]
 clear hz
 have hmk:∀ W:World,(Instr.makeMap 151 none).run Try.prog W=.ok (.map (some W.heap.size)) (W.alloc (.map #[] 0)):=fun _=>rfl
 clear hh hd hm
 have hd0:decide ((0:Int)<=(y:Nat))=true:=by simp
 have hd4:decide (((y:Nat):Int)<4)=true:=by simp;omega
 have hd6:decide ((C.length:Int)<16)=true:=by simp;omega
 have hlp:decide (0<loops)=true:=by simpa using hlo
 go_enter Try.func88,Try.ntmps88
 go_wp2_with (first
  |(go_at_call 105;rw[<-HW5.out];rw[HAB.out.1,HAB.out.2];refine(crossed_any (2*(C.length:Int)+1,2*(C.length:Int)+2) (2*(C.length:Int)+2,2*(C.length:Int)+1) (decide (2<=y)) (decide (y%2=1)) _).mono ?_;rw[HCX.out];rintro e9 w6 ⟨rfl,hb6⟩;refine Hid.out ?_)
  |(go_at_call 41;refine(QZ3 3 _).mono ?_;rintro e9 w4 ⟨rfl,e4⟩;obtain rfl:=e4.symm)
  |(go_at_call 41;refine(QZ3 2 _).mono ?_;rintro e9 w4 ⟨rfl,e4⟩;obtain rfl:=e4.symm)
  | (go_at_call 104; rw [← HY.out]; refine (HHS.out _).mono ?_; rintro e9 w3 ⟨rfl, hb3⟩
     have HB3:Hid (Below Y.heap.size Y w3):=hb3
     have hs3:=hb3.size
     have q0:=(hb3.block _ (by omega)).trans HT0.out
     have q1:=(hb3.block _ (by omega)).trans HT1.out
     have b0:w3.cell? ⟨w.heap.size,0,none⟩=some (.slice a C.length cap):=QQ0 q0 rfl
     have b1:w3.cell? ⟨w.heap.size,1,none⟩=some (.int .i64 loops):=QQ0 q0 rfl
     have b2:w3.cell? ⟨w.heap.size,2,none⟩=some (.slice (some ⟨gF,0,none⟩) (2*C.length+1) cF):=QQ0 q0 rfl
     have b3:w3.cell? ⟨w.heap.size,3,none⟩=some (.slice (some ⟨gT,0,none⟩) (2*C.length+1) cT):=QQ0 q0 rfl
     have m0:w3.cell? ⟨w.heap.size+1,0,none⟩=some (.int .i64 k):=QQ0 q1 rfl
     have m1:w3.cell? ⟨w.heap.size+1,1,none⟩=some (.int .i64 0):=QQ0 q1 rfl
     have m2:w3.cell? ⟨w.heap.size+1,2,none⟩=some (.int .i64 (y:Nat)):=QQ0 q1 rfl
     have m3:w3.cell? ⟨w.heap.size+1,3,none⟩=some (.int .i64 ua):=QQ0 q1 rfl
     have m4:w3.cell? ⟨w.heap.size+1,4,none⟩=some (.bool ub):=QQ0 q1 rfl
     have m5:w3.cell? ⟨w.heap.size+1,5,none⟩=some (.int .i64 va):=QQ0 q1 rfl
     have m6:w3.cell? ⟨w.heap.size+1,6,none⟩=some (.bool vb):=QQ0 q1 rfl
     have m7:w3.cell? ⟨w.heap.size+1,7,none⟩=some (.bool ov):=QQ0 q1 rfl
     have lb:w.heap.size<w3.heap.size:=by omega
     have lm:w.heap.size+1<w3.heap.size:=by omega
     have HDR:Hid (Dr w3 a cap C gF gT):=HD.out.on (HBY.out.trans (hb3.mono (by omega)))
     obtain⟨w5,hw5⟩:∃ w5,w5=w3.alloc (.map #[] 0):=⟨_,rfl⟩
     have HW5:=QQ1 hw5
     have hmp:MapS w5 w3.heap.size 0 (fun _=>none):=by rw[hw5];exact MapS.made w3
     have hg5:(w3.alloc (.map #[] 0)).grownBy w5 (some w3.heap.size):=by rw[hw5];exact QQ5 (Below.refl (w3.alloc (.map #[] 0)).heap.size _) _
     have HMP:=QQ1 hmp
     have HG5:=QQ1 hg5
     clear hw5
     have hltT:=HDR.out.ltT
     have hk5:∀ k,k<w3.heap.size->w5.heap[k]?=w3.heap[k]?:=fun k hk=>(hg5.block k (by simp;omega) (fun e=>by have:=Option.some.inj e;omega)).trans ((World.grownBy_alloc w3 _ none).block k hk (by simp))
     have p0:=(hk5 _ (by omega)).trans q0
     have p1:=(hk5 _ (by omega)).trans q1
     have hs5:w3.heap.size+1<=w5.heap.size:=by have:=hg5.size;simpa using this
     have v0:w5.cell? ⟨w.heap.size,0,none⟩=some (.slice a C.length cap):=QQ0 p0 rfl
     have v1:w5.cell? ⟨w.heap.size,1,none⟩=some (.int .i64 loops):=QQ0 p0 rfl
     have v2:w5.cell? ⟨w.heap.size,2,none⟩=some (.slice (some ⟨gF,0,none⟩) (2*C.length+1) cF):=QQ0 p0 rfl
     have v3:w5.cell? ⟨w.heap.size,3,none⟩=some (.slice (some ⟨gT,0,none⟩) (2*C.length+1) cT):=QQ0 p0 rfl
     have u0:w5.cell? ⟨w.heap.size+1,0,none⟩=some (.int .i64 k):=QQ0 p1 rfl
     have u1:w5.cell? ⟨w.heap.size+1,1,none⟩=some (.int .i64 0):=QQ0 p1 rfl
     have u2:w5.cell? ⟨w.heap.size+1,2,none⟩=some (.int .i64 y):=QQ0 p1 rfl
     have u3:w5.cell? ⟨w.heap.size+1,3,none⟩=some (.int .i64 ua):=QQ0 p1 rfl
     have u4:w5.cell? ⟨w.heap.size+1,4,none⟩=some (.bool ub):=QQ0 p1 rfl
     have u5:w5.cell? ⟨w.heap.size+1,5,none⟩=some (.int .i64 va):=QQ0 p1 rfl
     have u6:w5.cell? ⟨w.heap.size+1,6,none⟩=some (.bool vb):=QQ0 p1 rfl
     have u7:w5.cell? ⟨w.heap.size+1,7,none⟩=some (.bool ov):=QQ0 p1 rfl
     have HK5:=QQ1 hk5
     have HQ0:=QQ1 q0
     have HR3:=QQ1 ((hb3.block _ (by omega)).trans HT2.out)
     clear hmp hg5 hk5 p0 p1
     clear hb3 q0 q1))
 refine Lib.hid ?_
 have HB6:Hid (Below w5.heap.size w5 w6):=hb6
 have hs6:=hb6.size
 clear hb6
 clear b0 b1 b2 b3 m0 m1 m2 m3 m4 m5 m6 m7 v0 v1 v2 v3 u0 u1 u2 u3 u4 u5 u6 u7 hmk
 obtain⟨V,hV⟩:∃ V,V=w6.alloc (.cells #[.int .i64 z.a,.int .i64 z.b,.int .i64 z.c,.int .i64 z.d,.bool z.plus] 71):=⟨_,rfl⟩
 have HV:=QQ1 hV
 have hsV:V.heap.size=w6.heap.size+1:=by rw[hV];simp
 have HBV:Hid (Below w5.heap.size w5 V):=(by rw[hV];exact HB6.out.alloc (by omega) _:Below w5.heap.size w5 V)
 have HQ5:=QQ1 ((HK5.out _ (by omega)).trans HQ0.out)
 have HR5:=QQ1 ((HK5.out _ (by omega)).trans HR3.out)
 have HD5:Hid (Dr w5 a cap C gF gT):=(dr_grown HDR.out HG5.out)
 have HBW5:Hid (Below w.heap.size w w5):=(((HBY.out.trans (HB3.out.mono (by omega))).alloc (by omega) _).grown HG5.out (by simp;omega) (fun q hq=>by have:=Option.some.inj hq;omega))
 have HC:Hid (V.heap[w6.heap.size]?=some (.cells #[.int .i64 z.a,.int .i64 z.b,.int .i64 z.c,.int .i64 z.d,.bool z.plus] 71 (0,0))):=(by rw[hV];exact alloc_at rfl:V.heap[w6.heap.size]?=some (.cells #[.int .i64 z.a,.int .i64 z.b,.int .i64 z.c,.int .i64 z.d,.bool z.plus] 71 (0,0)))
 clear hV
 have HSV:Hid (∀ W,Below V.heap.size V W->(fun W:World=>W.cell? ⟨w.heap.size,0,none⟩=some (.slice a C.length cap)/\W.cell? ⟨w.heap.size,1,none⟩=some (.int .i64 loops)/\W.cell? ⟨w.heap.size,2,none⟩=some (.slice (some ⟨gF,0,none⟩) (2*C.length+1) cF)/\W.cell? ⟨w.heap.size,3,none⟩=some (.slice (some ⟨gT,0,none⟩) (2*C.length+1) cT)/\W.cell? ⟨w6.heap.size,0,none⟩=some (.int .i64 z.a)/\W.cell? ⟨w6.heap.size,1,none⟩=some (.int .i64 z.b)/\W.cell? ⟨w6.heap.size,2,none⟩=some (.int .i64 z.c)/\W.cell? ⟨w6.heap.size,3,none⟩=some (.int .i64 z.d)/\W.cell? ⟨w6.heap.size,4,none⟩=some (.bool z.plus)) W):=fun W hW=>by
  have hV5:=HBV.out.trans (hW.mono (by omega))
  have k0:=(hV5.block _ (by omega)).trans HQ5.out
  have k1:=(hW.block _ (by omega)).trans HC.out
  exact⟨QQ0 k0 rfl,QQ0 k0 rfl,QQ0 k0 rfl,QQ0 k0 rfl,QQ0 k1 rfl,QQ0 k1 rfl,QQ0 k1 rfl,QQ0 k1 rfl,QQ0 k1 rfl⟩
 have HRL:=QQ1 (fun(W:World) (hW:Below V.heap.size V W)=>HRA.out W gF cF gT cT _ _ _ (HD5.out.on (HBV.out.trans (hW.mono (by omega)))) (HMP.out.kept (QQ5 (HBV.out.trans (hW.mono (by omega))) none) (by simp)))
 have HRV:Hid (V.heap[w.heap.size+1+1]?=some (.cells #[.slice none 0 0,.int .i64 0] 24 (0,0))):=(HBV.out.block _ (by omega)).trans HR5.out
 have HDV:Hid (Below V.heap.size V V.drew):=(Below.refl _ _).drew
 have HBW:Hid (Below w.heap.size w V):=HBW5.out.trans (HBV.out.mono (by omega))
 obtain⟨i0,hi,hz0,hz1,hz2⟩:=info_parts infoCross
 go_wp2
 rw[<-HV.out]
 refine wp_region_held_drew (S:=fun W:World=>W.cell? ⟨w.heap.size,0,none⟩=some (.slice a C.length cap)/\W.cell? ⟨w.heap.size,1,none⟩=some (.int .i64 loops)/\W.cell? ⟨w.heap.size,2,none⟩=some (.slice (some ⟨gF,0,none⟩) (2*C.length+1) cF)/\W.cell? ⟨w.heap.size,3,none⟩=some (.slice (some ⟨gT,0,none⟩) (2*C.length+1) cT)/\W.cell? ⟨w6.heap.size,0,none⟩=some (.int .i64 z.a)/\W.cell? ⟨w6.heap.size,1,none⟩=some (.int .i64 z.b)/\W.cell? ⟨w6.heap.size,2,none⟩=some (.int .i64 z.c)/\W.cell? ⟨w6.heap.size,3,none⟩=some (.int .i64 z.d)/\W.cell? ⟨w6.heap.size,4,none⟩=some (.bool z.plus)) (by kernel_rfl) (HSV.out _ HDV.out) (fun hHeld=>?_)
 refine tk 0 (h:=?_)
 refine tk 1 (h:=?_)
 refine tk 3 (h:=?_)
 refine tk 6 (h:=?_)
 try simp only[Act.put]
 refine wpAnyH_ready (rs:=[2,4]) (by kernel_rfl) (by simp) ?_
 refine AllReadyH.cons rfl (fun K hK=>?A) (AllReadyH.cons rfl (fun K hK=>?B) AllReadyH.nil)
 case' A=>
  go_simp
  go_wp2_with (go_at_call 106;refine(HRL.out _ HDV.out).mono ?_;rintro e9 wA ⟨a9,c9,rfl,hoA,hbA⟩)
  have HA:Hid (Below V.heap.size V wA):=(HDV.out).trans (hbA.mono (by simp))
  have HO:=QQ1 (QX4 (B':=V.heap.size) hoA (by simp))
  refine hK.out _ _ (HSV.out _ HA.out) (fun hHeld=>?_)
  clear hK K
  try simp only[Act.put]
  refine rd1 4 (fun K hK=>?_)
  have HX:Hid (Below V.heap.size V (wA.alloc (.cells #[.int .i64 z.a,.int .i64 z.b,.int .i64 z.c,.int .i64 z.d,.bool z.plus] 71))):=HA.out.alloc HA.out.size _
  go_simp
  refine hK.out _ _ (HSV.out _ HX.out) (fun hHeld=>?_)
  clear hK K
  try simp only[Act.put]
  refine rd1 5 (fun K hK=>?_)
  refine QK2 rfl (.tmp 100) (.tmp 102) 22 rfl V.heap.size 71 i0 (.agg #[.int .i64 0,.int .i64 0,.int .i64 0,.int .i64 0,.bool false]) 5 40 Try.underlying22 hi hz0 hz1 hz2 rfl (by decide) _ C.length _ (by simp[Act.eval]) (HO.out.alloc _) ⟨wA.heap.size,0,none⟩ 1 1 [.int .i64 z.a,.int .i64 z.b,.int .i64 z.c,.int .i64 z.d,.bool z.plus] (by simp[Act.eval]) rfl (new_cell5 _ _ _ _ _ _ _) (cells_one [z]) (by unfold maxLen;omega) (by omega) (by have:=HA.out.size;simp<;>omega) ?_
 case' B=>
  have HX0:Hid (Below V.heap.size V (V.drew.alloc (.cells #[.int .i64 z.a,.int .i64 z.b,.int .i64 z.c,.int .i64 z.d,.bool z.plus] 71))):=HDV.out.alloc (Nat.le_refl _) _
  have HNW:Hid ((V.drew.alloc (.cells #[.int .i64 z.a,.int .i64 z.b,.int .i64 z.c,.int .i64 z.d,.bool z.plus] 71)).heap[V.heap.size]?=some (.cells #[.int .i64 z.a,.int .i64 z.b,.int .i64 z.c,.int .i64 z.d,.bool z.plus] 71 (0,0))):=(alloc_at rfl:(V.drew.alloc (.cells #[.int .i64 z.a,.int .i64 z.b,.int .i64 z.c,.int .i64 z.d,.bool z.plus] 71)).heap[V.drew.heap.size]?=some (.cells #[.int .i64 z.a,.int .i64 z.b,.int .i64 z.c,.int .i64 z.d,.bool z.plus] 71 (0,0)))
  go_simp
  refine hK.out _ _ (HSV.out _ HX0.out) (fun hHeld=>?_)
  clear hK K
  try simp only[Act.put]
  refine rd1 2 (fun K hK=>?_)
  go_simp
  go_wp2_with (go_at_call 106;refine(HRL.out _ HX0.out).mono ?_;rintro e9 wA ⟨a9,c9,rfl,hoA,hbA⟩)
  have HA:Hid (Below V.heap.size V wA):=(HX0.out).trans (hbA.mono (by simp))
  have HO:=QQ1 (QX4 (B':=V.heap.size) hoA (by simp))
  have HX:Hid (Below V.heap.size V wA):=HA.out
  have HN9:=QQ1 ((hbA.block _ (by simp)).trans HNW.out)
  refine hK.out _ _ (HSV.out _ HA.out) (fun hHeld=>?_)
  clear hK K
  try simp only[Act.put]
  refine rd1 5 (fun K hK=>?_)
  refine QK2 rfl (.tmp 100) (.tmp 102) 22 rfl V.heap.size 71 i0 (.agg #[.int .i64 0,.int .i64 0,.int .i64 0,.int .i64 0,.bool false]) 5 40 Try.underlying22 hi hz0 hz1 hz2 rfl (by decide) _ C.length _ (by simp[Act.eval]) HO.out ⟨V.heap.size,0,none⟩ 1 1 [.int .i64 z.a,.int .i64 z.b,.int .i64 z.c,.int .i64 z.d,.bool z.plus] (by simp[Act.eval]) rfl (block_cell5 HN9.out) (cells_one [z]) (by unfold maxLen;omega) (by omega) (by have:=HA.out.size;simp<;>omega) ?_
 all_goals
  intro v8 w8 hown8 hg8
  have H8:Hid (Below V.heap.size V w8):=(HX.out.grown hg8 HX.out.size (fun q hq=>(HO.out.lt q hq).1))
  obtain⟨a8,c8,rfl⟩:=QX5 hown8
  have HO8:=QQ1 hown8
  refine hK.out _ _ (HSV.out _ H8.out) (fun hHeld=>?_)
  clear hK K hown8 hg8
  refine tk 7 (h:=?_)
  try simp only[Act.put]
  have q2:=(H8.out.block _ (by omega)).trans HRV.out
  have hs8:=H8.out.size
  have r0:w8.cell? ⟨w.heap.size+1+1,0,none⟩=some (.slice none 0 0):=QQ0 q2 rfl
  have r1:w8.cell? ⟨w.heap.size+1+1,1,none⟩=some (.int .i64 0):=QQ0 q2 rfl
  have z0:w8.frozen? ⟨w.heap.size+1+1,0,none⟩=false:=QQ2 q2
  have z1:w8.frozen? ⟨w.heap.size+1+1,1,none⟩=false:=QQ2 q2
  have l2:w.heap.size+1+1<w8.heap.size:=by omega
  obtain⟨Z,hZ⟩:∃ Z,Z=(w8.setCell ⟨w.heap.size+1+1,0,none⟩ (.slice a8 (C.length+1) c8)).setCell ⟨w.heap.size+1+1,1,none⟩ (.int .i64 (loops - 1)):=⟨_,rfl⟩
  have HZE:=QQ1 hZ
  have hgZ:w8.grownBy Z (some (w.heap.size+1+1)):=by rw[hZ];exact QQ8 (QQ7 _ _ _ _) (QQ7 _ _ _ _)
  have hZ2:Z.heap[w.heap.size+1+1]?=some (.cells #[.slice a8 (C.length+1) c8,.int .i64 (loops-1)] 24 (0,0)):=by rw[hZ,QQ6 (QQ6 q2)];rfl
  have HZB:Hid (Below w.heap.size w Z):=(HBW.out.trans (H8.out.mono (by omega))).grown hgZ (by omega) (fun q hq=>by have:=Option.some.inj hq;omega)
  have HSZ:Hid ((fun W:World=>W.cell? ⟨w.heap.size,0,none⟩=some (.slice a C.length cap)/\W.cell? ⟨w.heap.size,1,none⟩=some (.int .i64 loops)/\W.cell? ⟨w.heap.size,2,none⟩=some (.slice (some ⟨gF,0,none⟩) (2*C.length+1) cF)/\W.cell? ⟨w.heap.size,3,none⟩=some (.slice (some ⟨gT,0,none⟩) (2*C.length+1) cT)/\W.cell? ⟨w6.heap.size,0,none⟩=some (.int .i64 z.a)/\W.cell? ⟨w6.heap.size,1,none⟩=some (.int .i64 z.b)/\W.cell? ⟨w6.heap.size,2,none⟩=some (.int .i64 z.c)/\W.cell? ⟨w6.heap.size,3,none⟩=some (.int .i64 z.d)/\W.cell? ⟨w6.heap.size,4,none⟩=some (.bool z.plus)) Z):=(by
   obtain⟨k0,k1,k2,k3,k4,k5,k6,k7,k8⟩:=HSV.out _ H8.out
   have hn0:some w.heap.size≠some (w.heap.size+1+1):=fun e=>by have:=Option.some.inj e;omega
   have hn1:some w6.heap.size≠some (w.heap.size+1+1):=fun e=>by have:=Option.some.inj e;omega
   have gc {b o:Nat} {v:Option Value} (hb:b<w8.heap.size) (hne:some b≠some (w.heap.size+1+1)) (hc:w8.cell? ⟨b,o,none⟩=v):Z.cell? ⟨b,o,none⟩=v:=by
    rw[<-hc]
    unfold World.cell?
    simp only[]
    rw[hgZ.block b hb hne]
   exact⟨gc (by omega) hn0 k0,gc (by omega) hn0 k1,gc (by omega) hn0 k2,gc (by omega) hn0 k3,gc (by omega) hn1 k4,gc (by omega) hn1 k5,gc (by omega) hn1 k6,gc (by omega) hn1 k7,gc (by omega) hn1 k8⟩)
  have HOZ:=QQ1 (HO8.out.kept hgZ (by
   cases hv:(Value.slice a8 (C.length+1) c8).ownBlock with
   |none=>exact Or.inl rfl
   |some k=>exact Or.inr (fun e=>by have h1:=(HO8.out.lt k hv).1;have h2:=Option.some.inj e;omega)))
  clear hZ hgZ q2
  refine rd1 8 (fun K hK=>?_)
  go_simp
  rw[<-HZE.out]
  refine hK.out _ _ HSZ.out (fun hHeld=>?_)
  clear hK K
  try simp only[Act.put]
  refine wpAnyH_done (by kernel_rfl) ?_ _
  clear hHeld
  go_wp2
  have x0:=QQ0 (i:=0) (v:=.slice a8 (C.length+1) c8) hZ2 rfl
  have x1:=QQ0 (i:=1) (v:=.int .i64 (loops-1)) hZ2 rfl
  refine bodyPost_ret (v:=.agg #[.slice a8 (C.length+1) c8,.int .i64 (loops-1)]) (by simp[results,Try.results88,go_sem,x0,x1]) rfl ⟨a8,c8,rfl,?_,HZB.out⟩
  have e:∀ L:List Cr,QQ4 (L++[z])=QQ4 L++[.int .i64 z.a,.int .i64 z.b,.int .i64 z.c,.int .i64 z.d,.bool z.plus]:=fun L=>by simp[QQ4]
  rw[e]
  exact QX4 HOZ.out (by omega)
end Go.Proofs.Ytagaajlbkfkaiaa
