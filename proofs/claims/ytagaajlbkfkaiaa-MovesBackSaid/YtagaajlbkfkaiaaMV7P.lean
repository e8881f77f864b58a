/- Several texts of the proof, one behind the other. -/
import Derived.Test.YtagaajlbkfkaiaaMV5P
import Derived.Test.YtagaajlbkfkaiaaTkhP
import Derived.Deep.RegionHeld
import Derived.Deep.Cut
import Derived.Test.YtagaajlbkfkaiaaF2P
/- Moves: the walk of bench.curl, where it may be done. Made by genmv7.py. -/
namespace Go.Proofs.Ytagaajlbkfkaiaa
open Go.RowKit Go.Maps
set_option maxHeartbeats 8000000
set_option maxRecDepth 100000
def spN (C:List Cr) (x:Nat):Nat:=4*toC C x+4+toS C x
theorem sp_eq (C:List Cr) (x:Nat) (h:toS C x<4):spV (spN C x)=.agg #[.int .i64 (toC C x:Nat),.int .i64 (toS C x:Nat)]:=by
 unfold spV spN
 rw[show(4*toC C x+4+toS C x) / 4=toC C x+1 by omega,show(4*toC C x+4+toS C x)%4=toS C x by omega]
 rw[show(((toC C x+1:Nat):Int)-1)=(toC C x:Int) by omega]
theorem and_bits {y:Nat} (h:y<4):(bits BinOp.and IntKind.i64 (y:Int) 2 != 0)=decide (2<=y)/\(bits BinOp.and IntKind.i64 (y:Int) 1 != 0)=decide (y%2=1):=by
 match y,h with
 |0,_=>decide
 |1,_=>decide
 |2,_=>decide
 |3,_=>decide
theorem block_cell5 {W:World} {b:Nat} {e:TypeId} {a0 a1 a2 a3 a4:Value} (h:W.heap[b]?=some (.cells #[a0,a1,a2,a3,a4] e (0,0))):∀ j u,[a0,a1,a2,a3,a4][j]?=some u->W.cell? ((⟨b,0,none⟩:Addr).add j)=some u:=by
 intro j u hj
 rw[Addr.add_lit,Nat.zero_add]
 exact block_cell h (by simpa using hj)
theorem dr_grown {w w5:World} {a:Option Addr} {cap:Nat} {C:List Cr} {gF gT:Nat} {o:Obj} (h:Dr w a cap C gF gT) (hg:(w.alloc o).grownBy w5 (some w.heap.size)):Dr w5 a cap C gF gT:=
 h.on (((Below.refl _ _).alloc (Nat.le_refl _) o).grown hg (by simp) (fun q hq=>by have:=Option.some.inj hq;omega))
def one1 (s:Nat) (y:Int):Nat->Option Int:=fun z=>if z=s then some y else none
theorem curl_yes1 (a:Option Addr) (cap:Nat) (C:List Cr) (loops:Int) (gF cF gT cT:Nat) (k ua va:Int) (x y:Nat) (ub vb ov:Bool) (w:World) (hm:mayD C loops=true) (hx1:1<=x) (hx2:x<=2*C.length) (hy:y<4) (hn:C.length<16) (hd:Dr w a cap C gF gT):
    Calls Try.prog 88 #[drV a cap C loops gF cF gT cT, mvV k (x : Nat) (y : Nat) ua ub va vb ov] w fun e w' => ∃ a' c', e = .returned (.agg #[.slice a' (C.length + 1) c', .int .i64 loops]) ∧ w'.ownsRow w.heap.size 71 5 (.slice a' (C.length + 1) c') (C.length + 1) (crossCells (relN (one1 (spN C x) ((2 * C.length + 2 : Nat) : Int)) C C.length ++ [crossX ((x : Nat), ((2 * C.length + 1 : Nat) : Int)) (((2 * C.length + 1 : Nat) : Int), ((2 * C.length + 2 : Nat) : Int)) (decide (2 ≤ y)) (decide (y % 2 = 1))])) ∧ Below w.heap.size w w' := by
 have hl:C.length<=16:=by omega
 have hh:hasB C (x:Nat)=true:=by simp[hasB];omega
 have HHS:Hid (∀ W,Calls Try.prog 104 #[drV a cap C loops gF cF gT cT,.int .i64 (x:Nat)] W fun e w'=>e=.returned (.bool true)/\Below W.heap.size W w'):=fun W=>by have:=has_any a cap C loops gF cF gT cT x W hl;rw[hh]at this;exact this
 have HD:Hid (Dr w a cap C gF gT):=hd
 have HM:Hid (mayD C loops=true):=hm
 have HTT:Hid (toC C x<C.length/\toS C x<4):=⟨(to_may hm x hx1 hx2).2.1,(to_may hm x hx1 hx2).2.2.1⟩
 have HRA:=hid_of (fun(w:World) (gF cF gT cT:Nat) (b m:Nat) (F:Nat->Option Int)=>relaid_any a cap C loops gF cF gT cT b m F w hm)
 unfold mvV
 unfold drV at HHS HRA ⊢
 obtain⟨Y,hY⟩:∃ Y,Y=((w.alloc (.cells #[.slice a C.length cap,.int .i64 loops,.slice (some ⟨gF,0,none⟩) (2*C.length+1) cF,.slice (some ⟨gT,0,none⟩) (2*C.length+1) cT] 63)).alloc (.cells #[.int .i64 k,.int .i64 (x:Nat),.int .i64 (y:Nat),.int .i64 ua,.bool ub,.int .i64 va,.bool vb,.bool ov] 28)).alloc (.cells #[.slice none 0 0,.int .i64 0] 24):=⟨_,rfl⟩
 have HY:Hid (Y=((w.alloc (.cells #[.slice a C.length cap,.int .i64 loops,.slice (some ⟨gF,0,none⟩) (2*C.length+1) cF,.slice (some ⟨gT,0,none⟩) (2*C.length+1) cT] 63)).alloc (.cells #[.int .i64 k,.int .i64 (x:Nat),.int .i64 (y:Nat),.int .i64 ua,.bool ub,.int .i64 va,.bool vb,.bool ov] 28)).alloc (.cells #[.slice none 0 0,.int .i64 0] 24)):=hY
 have HBY:Hid (Below w.heap.size w Y):=(by rw[hY];exact below3 _ _ _ _:Below w.heap.size w Y)
 have HT0:Hid (Y.heap[w.heap.size]?=some (.cells #[.slice a C.length cap,.int .i64 loops,.slice (some ⟨gF,0,none⟩) (2*C.length+1) cF,.slice (some ⟨gT,0,none⟩) (2*C.length+1) cT] 63 (0,0))):=(by rw[hY];exact alloc_old (alloc_old (alloc_at rfl)):Y.heap[w.heap.size]?=some (.cells #[.slice a C.length cap,.int .i64 loops,.slice (some ⟨gF,0,none⟩) (2*C.length+1) cF,.slice (some ⟨gT,0,none⟩) (2*C.length+1) cT] 63 (0,0)))
 have HT1:Hid (Y.heap[w.heap.size+1]?=some (.cells #[.int .i64 k,.int .i64 (x:Nat),.int .i64 (y:Nat),.int .i64 ua,.bool ub,.int .i64 va,.bool vb,.bool ov] 28 (0,0))):=(by rw[hY];exact alloc_old (alloc_at (by simp)):Y.heap[w.heap.size+1]?=some (.cells #[.int .i64 k,.int .i64 (x:Nat),.int .i64 (y:Nat),.int .i64 ua,.bool ub,.int .i64 va,.bool vb,.bool ov] 28 (0,0)))
 have HT2:Hid (Y.heap[w.heap.size+1+1]?=some (.cells #[.slice none 0 0,.int .i64 0] 24 (0,0))):=(by rw[hY];exact alloc_at (by simp):Y.heap[w.heap.size+1+1]?=some (.cells #[.slice none 0 0,.int .i64 0] 24 (0,0)))
 have hsY:Y.heap.size=w.heap.size+3:=by rw[hY];simp
 clear hY
 have HS:=hid_of (sp_eq C x)
 have HAB:=hid_of (and_bits hy)
 rw[show((2*C.length+2:Nat):Int)=2*(C.length:Int)+2 by omega,show((2*C.length+1:Nat):Int)=2*(C.length:Int)+1 by omega]
 obtain⟨z,hz⟩:∃ z,crossX ((x:Int),2*(C.length:Int)+1) (2*(C.length:Int)+1,2*(C.length:Int)+2) (decide (2<=y)) (decide (y%2=1))=z:=⟨_,rfl⟩
 have HCX:=hid_of hz
 rw[hz]
 clear hz
 have hmk:∀ W:World,(Instr.makeMap 151 none).run Try.prog W=.ok (.map (some W.heap.size)) (W.alloc (.map #[] 0)):=fun _=>rfl
 clear hh hd hm
 have hd0:decide ((0:Int)<=(y:Nat))=true:=by simp
 have hd4:decide (((y:Nat):Int)<4)=true:=by simp;omega
 have hd6:decide ((C.length:Int)<16)=true:=by simp;omega
 have hxp:¬ ((x:Nat):Int)=0:=by omega
 go_enter Try.func88,Try.ntmps88
 go_wp2_with (first
  |(go_at_call 105;rw[HAB.out.1,HAB.out.2];refine(crossed_any ((x:Int),2*(C.length:Int)+1) (2*(C.length:Int)+1,2*(C.length:Int)+2) (decide (2<=y)) (decide (y%2=1)) _).mono ?_;rw[HCX.out];rintro e9 w6 ⟨rfl,hb6⟩;refine Hid.out ?_)
  |(go_at_call 41;refine(need_ok 3 _).mono ?_;rintro e9 w4 ⟨rfl,e4⟩;obtain rfl:=e4.symm)
  |(go_at_call 41;refine(need_ok 2 _).mono ?_;rintro e9 w4 ⟨rfl,e4⟩;obtain rfl:=e4.symm)
  | (go_at_call 104; rw [← HY.out]; refine (HHS.out _).mono ?_; rintro e9 w3 ⟨rfl, hb3⟩
     have HB3:Hid (Below Y.heap.size Y w3):=hb3
     have hs3:=hb3.size
     have q0:=(hb3.block _ (by omega)).trans HT0.out
     have q1:=(hb3.block _ (by omega)).trans HT1.out
     have b0:w3.cell? ⟨w.heap.size,0,none⟩=some (.slice a C.length cap):=block_cell q0 rfl
     have b1:w3.cell? ⟨w.heap.size,1,none⟩=some (.int .i64 loops):=block_cell q0 rfl
     have b2:w3.cell? ⟨w.heap.size,2,none⟩=some (.slice (some ⟨gF,0,none⟩) (2*C.length+1) cF):=block_cell q0 rfl
     have b3:w3.cell? ⟨w.heap.size,3,none⟩=some (.slice (some ⟨gT,0,none⟩) (2*C.length+1) cT):=block_cell q0 rfl
     have m0:w3.cell? ⟨w.heap.size+1,0,none⟩=some (.int .i64 k):=block_cell q1 rfl
     have m1:w3.cell? ⟨w.heap.size+1,1,none⟩=some (.int .i64 (x:Nat)):=block_cell q1 rfl
     have m2:w3.cell? ⟨w.heap.size+1,2,none⟩=some (.int .i64 (y:Nat)):=block_cell q1 rfl
     have m3:w3.cell? ⟨w.heap.size+1,3,none⟩=some (.int .i64 ua):=block_cell q1 rfl
     have m4:w3.cell? ⟨w.heap.size+1,4,none⟩=some (.bool ub):=block_cell q1 rfl
     have m5:w3.cell? ⟨w.heap.size+1,5,none⟩=some (.int .i64 va):=block_cell q1 rfl
     have m6:w3.cell? ⟨w.heap.size+1,6,none⟩=some (.bool vb):=block_cell q1 rfl
     have m7:w3.cell? ⟨w.heap.size+1,7,none⟩=some (.bool ov):=block_cell q1 rfl
     have lb:w.heap.size<w3.heap.size:=by omega
     have lm:w.heap.size+1<w3.heap.size:=by omega
     have HDR:Hid (Dr w3 a cap C gF gT):=HD.out.on (HBY.out.trans (hb3.mono (by omega)))
     have hto:=HDR.out.toAt HM.out x hx1 hx2
     obtain⟨w5,hup,hmp,hg5⟩:=(MapS.made w3).put (spN C x) (2*(C.length:Int)+2) (by have:=HTT.out;unfold spN;omega) (by omega) (by omega)
     rw[HS.out HTT.out.2]at hup
     have HMP:=hid_of hmp
     have HG5:=hid_of hg5
     have t0:w3.cell? ⟨gT,x*2,none⟩=some (.int .i64 (toC C x:Nat)):=hto.1
     have t1:w3.cell? ⟨gT,x*2+1,none⟩=some (.int .i64 (toS C x:Nat)):=hto.2
     have hltT:=HDR.out.ltT
     have hk5:∀ k,k<w3.heap.size->w5.heap[k]?=w3.heap[k]?:=fun k hk=>(hg5.block k (by simp;omega) (fun e=>by have:=Option.some.inj e;omega)).trans ((World.grownBy_alloc w3 _ none).block k hk (by simp))
     have p0:=(hk5 _ (by omega)).trans q0
     have p1:=(hk5 _ (by omega)).trans q1
     have hs5:w3.heap.size+1<=w5.heap.size:=by have:=hg5.size;simpa using this
     have v0:w5.cell? ⟨w.heap.size,0,none⟩=some (.slice a C.length cap):=block_cell p0 rfl
     have v1:w5.cell? ⟨w.heap.size,1,none⟩=some (.int .i64 loops):=block_cell p0 rfl
     have v2:w5.cell? ⟨w.heap.size,2,none⟩=some (.slice (some ⟨gF,0,none⟩) (2*C.length+1) cF):=block_cell p0 rfl
     have v3:w5.cell? ⟨w.heap.size,3,none⟩=some (.slice (some ⟨gT,0,none⟩) (2*C.length+1) cT):=block_cell p0 rfl
     have u0:w5.cell? ⟨w.heap.size+1,0,none⟩=some (.int .i64 k):=block_cell p1 rfl
     have u1:w5.cell? ⟨w.heap.size+1,1,none⟩=some (.int .i64 x):=block_cell p1 rfl
     have u2:w5.cell? ⟨w.heap.size+1,2,none⟩=some (.int .i64 y):=block_cell p1 rfl
     have u3:w5.cell? ⟨w.heap.size+1,3,none⟩=some (.int .i64 ua):=block_cell p1 rfl
     have u4:w5.cell? ⟨w.heap.size+1,4,none⟩=some (.bool ub):=block_cell p1 rfl
     have u5:w5.cell? ⟨w.heap.size+1,5,none⟩=some (.int .i64 va):=block_cell p1 rfl
     have u6:w5.cell? ⟨w.heap.size+1,6,none⟩=some (.bool vb):=block_cell p1 rfl
     have u7:w5.cell? ⟨w.heap.size+1,7,none⟩=some (.bool ov):=block_cell p1 rfl
     have HK5:=hid_of hk5
     have HQ0:=hid_of q0
     have HR3:=hid_of ((hb3.block _ (by omega)).trans HT2.out)
     clear hmp hg5 hto hk5 p0 p1
     clear hb3 q0 q1))
 refine Lib.hid ?_
 have HB6:Hid (Below w5.heap.size w5 w6):=hb6
 have hs6:=hb6.size
 clear hb6
 clear b0 b1 b2 b3 m0 m1 m2 m3 m4 m5 m6 m7 t0 t1 v0 v1 v2 v3 u0 u1 u2 u3 u4 u5 u6 u7 hup hmk
 obtain⟨V,hV⟩:∃ V,V=w6.alloc (.cells #[.int .i64 z.a,.int .i64 z.b,.int .i64 z.c,.int .i64 z.d,.bool z.plus] 71):=⟨_,rfl⟩
 have HV:=hid_of hV
 have hsV:V.heap.size=w6.heap.size+1:=by rw[hV];simp
 have HBV:Hid (Below w5.heap.size w5 V):=(by rw[hV];exact HB6.out.alloc (by omega) _:Below w5.heap.size w5 V)
 have HQ5:=hid_of ((HK5.out _ (by omega)).trans HQ0.out)
 have HR5:=hid_of ((HK5.out _ (by omega)).trans HR3.out)
 have HD5:Hid (Dr w5 a cap C gF gT):=(dr_grown HDR.out HG5.out)
 have HBW5:Hid (Below w.heap.size w w5):=(((HBY.out.trans (HB3.out.mono (by omega))).alloc (by omega) _).grown HG5.out (by simp;omega) (fun q hq=>by have:=Option.some.inj hq;omega))
 have HC:Hid (V.heap[w6.heap.size]?=some (.cells #[.int .i64 z.a,.int .i64 z.b,.int .i64 z.c,.int .i64 z.d,.bool z.plus] 71 (0,0))):=(by rw[hV];exact alloc_at rfl:V.heap[w6.heap.size]?=some (.cells #[.int .i64 z.a,.int .i64 z.b,.int .i64 z.c,.int .i64 z.d,.bool z.plus] 71 (0,0)))
 clear hV
 have HSV:Hid (∀ W,Below V.heap.size V W->(fun W:World=>W.cell? ⟨w.heap.size,0,none⟩=some (.slice a C.length cap)/\W.cell? ⟨w.heap.size,1,none⟩=some (.int .i64 loops)/\W.cell? ⟨w.heap.size,2,none⟩=some (.slice (some ⟨gF,0,none⟩) (2*C.length+1) cF)/\W.cell? ⟨w.heap.size,3,none⟩=some (.slice (some ⟨gT,0,none⟩) (2*C.length+1) cT)/\W.cell? ⟨w6.heap.size,0,none⟩=some (.int .i64 z.a)/\W.cell? ⟨w6.heap.size,1,none⟩=some (.int .i64 z.b)/\W.cell? ⟨w6.heap.size,2,none⟩=some (.int .i64 z.c)/\W.cell? ⟨w6.heap.size,3,none⟩=some (.int .i64 z.d)/\W.cell? ⟨w6.heap.size,4,none⟩=some (.bool z.plus)) W):=fun W hW=>by
  have hV5:=HBV.out.trans (hW.mono (by omega))
  have k0:=(hV5.block _ (by omega)).trans HQ5.out
  have k1:=(hW.block _ (by omega)).trans HC.out
  exact⟨block_cell k0 rfl,block_cell k0 rfl,block_cell k0 rfl,block_cell k0 rfl,block_cell k1 rfl,block_cell k1 rfl,block_cell k1 rfl,block_cell k1 rfl,block_cell k1 rfl⟩
 have HRL:=hid_of (fun(W:World) (hW:Below V.heap.size V W)=>HRA.out W gF cF gT cT _ _ _ (HD5.out.on (HBV.out.trans (hW.mono (by omega)))) (HMP.out.kept (grown_below (HBV.out.trans (hW.mono (by omega))) none) (by simp)))
 have HRV:Hid (V.heap[w.heap.size+1+1]?=some (.cells #[.slice none 0 0,.int .i64 0] 24 (0,0))):=(HBV.out.block _ (by omega)).trans HR5.out
 have HDV:Hid (Below V.heap.size V V.drew):=(Below.refl _ _).drew
 have HBW:Hid (Below w.heap.size w V):=HBW5.out.trans (HBV.out.mono (by omega))
 obtain⟨i0,hi,hz0,hz1,hz2⟩:=info_parts infoCross
 go_wp2
 rw[<-HV.out]
 refine wp_region_held_drew (S:=fun W:World=>W.cell? ⟨w.heap.size,0,none⟩=some (.slice a C.length cap)/\W.cell? ⟨w.heap.size,1,none⟩=some (.int .i64 loops)/\W.cell? ⟨w.heap.size,2,none⟩=some (.slice (some ⟨gF,0,none⟩) (2*C.length+1) cF)/\W.cell? ⟨w.heap.size,3,none⟩=some (.slice (some ⟨gT,0,none⟩) (2*C.length+1) cT)/\W.cell? ⟨w6.heap.size,0,none⟩=some (.int .i64 z.a)/\W.cell? ⟨w6.heap.size,1,none⟩=some (.int .i64 z.b)/\W.cell? ⟨w6.heap.size,2,none⟩=some (.int .i64 z.c)/\W.cell? ⟨w6.heap.size,3,none⟩=some (.int .i64 z.d)/\W.cell? ⟨w6.heap.size,4,none⟩=some (.bool z.plus)) (by kernel_rfl) (HSV.out _ HDV.out) (fun hHeld=>?_)
 refine tk 0 (h:=?_)
 refine tk 1 (h:=?_)
 refine tk 3 (h:=?_)
 refine tk 6 (h:=?_)
 try simp only[Act.put]
 refine wpAnyH_ready (rs:=[2,4]) (by kernel_rfl) (by simp) ?_
 refine AllReadyH.cons rfl (fun K hK=>?A) (AllReadyH.cons rfl (fun K hK=>?B) AllReadyH.nil)
 case' A=>
  go_simp
  go_wp2_with (go_at_call 106;refine(HRL.out _ HDV.out).mono ?_;rintro e9 wA ⟨a9,c9,rfl,hoA,hbA⟩)
  have HA:Hid (Below V.heap.size V wA):=(HDV.out).trans (hbA.mono (by simp))
  have HO:=hid_of (own_low (B':=V.heap.size) hoA (by simp))
  refine hK.out _ _ (HSV.out _ HA.out) (fun hHeld=>?_)
  clear hK K
  try simp only[Act.put]
  refine rd1 4 (fun K hK=>?_)
  have HX:Hid (Below V.heap.size V (wA.alloc (.cells #[.int .i64 z.a,.int .i64 z.b,.int .i64 z.c,.int .i64 z.d,.bool z.plus] 71))):=HA.out.alloc HA.out.size _
  go_simp
  refine hK.out _ _ (HSV.out _ HX.out) (fun hHeld=>?_)
  clear hK K
  try simp only[Act.put]
  refine rd1 5 (fun K hK=>?_)
  refine step_append_own rfl (.tmp 100) (.tmp 102) 22 rfl V.heap.size 71 i0 (.agg #[.int .i64 0,.int .i64 0,.int .i64 0,.int .i64 0,.bool false]) 5 40 Try.underlying22 hi hz0 hz1 hz2 rfl (by decide) _ C.length _ (by simp[Act.eval]) (HO.out.alloc _) ⟨wA.heap.size,0,none⟩ 1 1 [.int .i64 z.a,.int .i64 z.b,.int .i64 z.c,.int .i64 z.d,.bool z.plus] (by simp[Act.eval]) rfl (new_cell5 _ _ _ _ _ _ _) (cells_one [z]) (by unfold maxLen;omega) (by omega) (by have:=HA.out.size;simp<;>omega) ?_
 case' B=>
  have HX0:Hid (Below V.heap.size V (V.drew.alloc (.cells #[.int .i64 z.a,.int .i64 z.b,.int .i64 z.c,.int .i64 z.d,.bool z.plus] 71))):=HDV.out.alloc (Nat.le_refl _) _
  have HNW:Hid ((V.drew.alloc (.cells #[.int .i64 z.a,.int .i64 z.b,.int .i64 z.c,.int .i64 z.d,.bool z.plus] 71)).heap[V.heap.size]?=some (.cells #[.int .i64 z.a,.int .i64 z.b,.int .i64 z.c,.int .i64 z.d,.bool z.plus] 71 (0,0))):=(alloc_at rfl:(V.drew.alloc (.cells #[.int .i64 z.a,.int .i64 z.b,.int .i64 z.c,.int .i64 z.d,.bool z.plus] 71)).heap[V.drew.heap.size]?=some (.cells #[.int .i64 z.a,.int .i64 z.b,.int .i64 z.c,.int .i64 z.d,.bool z.plus] 71 (0,0)))
  go_simp
  refine hK.out _ _ (HSV.out _ HX0.out) (fun hHeld=>?_)
  clear hK K
  try simp only[Act.put]
  refine rd1 2 (fun K hK=>?_)
  go_simp
  go_wp2_with (go_at_call 106;refine(HRL.out _ HX0.out).mono ?_;rintro e9 wA ⟨a9,c9,rfl,hoA,hbA⟩)
  have HA:Hid (Below V.heap.size V wA):=(HX0.out).trans (hbA.mono (by simp))
  have HO:=hid_of (own_low (B':=V.heap.size) hoA (by simp))
  have HX:Hid (Below V.heap.size V wA):=HA.out
  have HN9:=hid_of ((hbA.block _ (by simp)).trans HNW.out)
  refine hK.out _ _ (HSV.out _ HA.out) (fun hHeld=>?_)
  clear hK K
  try simp only[Act.put]
  refine rd1 5 (fun K hK=>?_)
  refine step_append_own rfl (.tmp 100) (.tmp 102) 22 rfl V.heap.size 71 i0 (.agg #[.int .i64 0,.int .i64 0,.int .i64 0,.int .i64 0,.bool false]) 5 40 Try.underlying22 hi hz0 hz1 hz2 rfl (by decide) _ C.length _ (by simp[Act.eval]) HO.out ⟨V.heap.size,0,none⟩ 1 1 [.int .i64 z.a,.int .i64 z.b,.int .i64 z.c,.int .i64 z.d,.bool z.plus] (by simp[Act.eval]) rfl (block_cell5 HN9.out) (cells_one [z]) (by unfold maxLen;omega) (by omega) (by have:=HA.out.size;simp<;>omega) ?_
 all_goals
  intro v8 w8 hown8 hg8
  have H8:Hid (Below V.heap.size V w8):=(HX.out.grown hg8 HX.out.size (fun q hq=>(HO.out.lt q hq).1))
  obtain⟨a8,c8,rfl⟩:=own_capS hown8
  have HO8:=hid_of hown8
  refine hK.out _ _ (HSV.out _ H8.out) (fun hHeld=>?_)
  clear hK K hown8 hg8
  refine tk 7 (h:=?_)
  try simp only[Act.put]
  have q2:=(H8.out.block _ (by omega)).trans HRV.out
  have hs8:=H8.out.size
  have r0:w8.cell? ⟨w.heap.size+1+1,0,none⟩=some (.slice none 0 0):=block_cell q2 rfl
  have r1:w8.cell? ⟨w.heap.size+1+1,1,none⟩=some (.int .i64 0):=block_cell q2 rfl
  have z0:w8.frozen? ⟨w.heap.size+1+1,0,none⟩=false:=block_frozen q2
  have z1:w8.frozen? ⟨w.heap.size+1+1,1,none⟩=false:=block_frozen q2
  have l2:w.heap.size+1+1<w8.heap.size:=by omega
  obtain⟨Z,hZ⟩:∃ Z,Z=(w8.setCell ⟨w.heap.size+1+1,0,none⟩ (.slice a8 (C.length+1) c8)).setCell ⟨w.heap.size+1+1,1,none⟩ (.int .i64 loops):=⟨_,rfl⟩
  have HZE:=hid_of hZ
  have hgZ:w8.grownBy Z (some (w.heap.size+1+1)):=by rw[hZ];exact grown_trans (set_grown _ _ _ _) (set_grown _ _ _ _)
  have hZ2:Z.heap[w.heap.size+1+1]?=some (.cells #[.slice a8 (C.length+1) c8,.int .i64 loops] 24 (0,0)):=by rw[hZ,set_block (set_block q2)];rfl
  have HZB:Hid (Below w.heap.size w Z):=(HBW.out.trans (H8.out.mono (by omega))).grown hgZ (by omega) (fun q hq=>by have:=Option.some.inj hq;omega)
  have HSZ:Hid ((fun W:World=>W.cell? ⟨w.heap.size,0,none⟩=some (.slice a C.length cap)/\W.cell? ⟨w.heap.size,1,none⟩=some (.int .i64 loops)/\W.cell? ⟨w.heap.size,2,none⟩=some (.slice (some ⟨gF,0,none⟩) (2*C.length+1) cF)/\W.cell? ⟨w.heap.size,3,none⟩=some (.slice (some ⟨gT,0,none⟩) (2*C.length+1) cT)/\W.cell? ⟨w6.heap.size,0,none⟩=some (.int .i64 z.a)/\W.cell? ⟨w6.heap.size,1,none⟩=some (.int .i64 z.b)/\W.cell? ⟨w6.heap.size,2,none⟩=some (.int .i64 z.c)/\W.cell? ⟨w6.heap.size,3,none⟩=some (.int .i64 z.d)/\W.cell? ⟨w6.heap.size,4,none⟩=some (.bool z.plus)) Z):=(by
   obtain⟨k0,k1,k2,k3,k4,k5,k6,k7,k8⟩:=HSV.out _ H8.out
   have hn0:some w.heap.size≠some (w.heap.size+1+1):=fun e=>by have:=Option.some.inj e;omega
   have hn1:some w6.heap.size≠some (w.heap.size+1+1):=fun e=>by have:=Option.some.inj e;omega
   have gc {b o:Nat} {v:Option Value} (hb:b<w8.heap.size) (hne:some b≠some (w.heap.size+1+1)) (hc:w8.cell? ⟨b,o,none⟩=v):Z.cell? ⟨b,o,none⟩=v:=by
    rw[<-hc]
    unfold World.cell?
    simp only[]
    rw[hgZ.block b hb hne]
   exact⟨gc (by omega) hn0 k0,gc (by omega) hn0 k1,gc (by omega) hn0 k2,gc (by omega) hn0 k3,gc (by omega) hn1 k4,gc (by omega) hn1 k5,gc (by omega) hn1 k6,gc (by omega) hn1 k7,gc (by omega) hn1 k8⟩)
  have HOZ:=hid_of (HO8.out.kept hgZ (by
   cases hv:(Value.slice a8 (C.length+1) c8).ownBlock with
   |none=>exact Or.inl rfl
   |some k=>exact Or.inr (fun e=>by have h1:=(HO8.out.lt k hv).1;have h2:=Option.some.inj e;omega)))
  clear hZ hgZ q2
  refine rd1 8 (fun K hK=>?_)
  go_simp
  rw[<-HZE.out]
  refine hK.out _ _ HSZ.out (fun hHeld=>?_)
  clear hK K
  try simp only[Act.put]
  refine wpAnyH_done (by kernel_rfl) ?_ _
  clear hHeld
  go_wp2
  have x0:=block_cell (i:=0) (v:=.slice a8 (C.length+1) c8) hZ2 rfl
  have x1:=block_cell (i:=1) (v:=.int .i64 loops) hZ2 rfl
  refine bodyPost_ret (v:=.agg #[.slice a8 (C.length+1) c8,.int .i64 loops]) (by simp[results,Try.results88,go_sem,x0,x1]) rfl ⟨a8,c8,rfl,?_,HZB.out⟩
  have e:∀ L:List Cr,crossCells (L++[z])=crossCells L++[.int .i64 z.a,.int .i64 z.b,.int .i64 z.c,.int .i64 z.d,.bool z.plus]:=fun L=>by simp[crossCells]
  rw[e]
  exact own_low HOZ.out (by omega)
theorem curl_yes0 (a:Option Addr) (cap:Nat) (C:List Cr) (loops:Int) (gF cF gT cT:Nat) (k ua va:Int) (y:Nat) (ub vb ov:Bool) (w:World) (hm:mayD C loops=true) (hlo:0<loops) (hy:y<4) (hn:C.length<16) (hd:Dr w a cap C gF gT):
    Calls Try.prog 88 #[drV a cap C loops gF cF gT cT, mvV k 0 (y : Nat) ua ub va vb ov] w fun e w' => ∃ a' c', e = .returned (.agg #[.slice a' (C.length + 1) c', .int .i64 (loops - 1)]) ∧ w'.ownsRow w.heap.size 71 5 (.slice a' (C.length + 1) c') (C.length + 1) (crossCells (relN (fun _ => none) C C.length ++ [crossX (((2 * C.length + 1 : Nat) : Int), ((2 * C.length + 2 : Nat) : Int)) (((2 * C.length + 2 : Nat) : Int), ((2 * C.length + 1 : Nat) : Int)) (decide (2 ≤ y)) (decide (y % 2 = 1))])) ∧ Below w.heap.size w w' := by
 have hl:C.length<=16:=by omega
 have hh:hasB C 0=false:=by simp[hasB]
 have hlu:loops<=1000:=by obtain⟨-,-,h3,h4⟩:=sizeB_iff (may_size hm);omega
 have HHS:Hid (∀ W,Calls Try.prog 104 #[drV a cap C loops gF cF gT cT,.int .i64 0] W fun e w'=>e=.returned (.bool false)/\Below W.heap.size W w'):=fun W=>by have:=has_any a cap C loops gF cF gT cT 0 W hl;rw[hh]at this;exact this
 have HD:Hid (Dr w a cap C gF gT):=hd
 have HM:Hid (mayD C loops=true):=hm
 have HRA:=hid_of (fun(w:World) (gF cF gT cT:Nat) (b m:Nat) (F:Nat->Option Int)=>relaid_any a cap C loops gF cF gT cT b m F w hm)
 unfold mvV
 unfold drV at HHS HRA ⊢
 obtain⟨Y,hY⟩:∃ Y,Y=((w.alloc (.cells #[.slice a C.length cap,.int .i64 loops,.slice (some ⟨gF,0,none⟩) (2*C.length+1) cF,.slice (some ⟨gT,0,none⟩) (2*C.length+1) cT] 63)).alloc (.cells #[.int .i64 k,.int .i64 0,.int .i64 (y:Nat),.int .i64 ua,.bool ub,.int .i64 va,.bool vb,.bool ov] 28)).alloc (.cells #[.slice none 0 0,.int .i64 0] 24):=⟨_,rfl⟩
 have HY:Hid (Y=((w.alloc (.cells #[.slice a C.length cap,.int .i64 loops,.slice (some ⟨gF,0,none⟩) (2*C.length+1) cF,.slice (some ⟨gT,0,none⟩) (2*C.length+1) cT] 63)).alloc (.cells #[.int .i64 k,.int .i64 0,.int .i64 (y:Nat),.int .i64 ua,.bool ub,.int .i64 va,.bool vb,.bool ov] 28)).alloc (.cells #[.slice none 0 0,.int .i64 0] 24)):=hY
 have HBY:Hid (Below w.heap.size w Y):=(by rw[hY];exact below3 _ _ _ _:Below w.heap.size w Y)
 have HT0:Hid (Y.heap[w.heap.size]?=some (.cells #[.slice a C.length cap,.int .i64 loops,.slice (some ⟨gF,0,none⟩) (2*C.length+1) cF,.slice (some ⟨gT,0,none⟩) (2*C.length+1) cT] 63 (0,0))):=(by rw[hY];exact alloc_old (alloc_old (alloc_at rfl)):Y.heap[w.heap.size]?=some (.cells #[.slice a C.length cap,.int .i64 loops,.slice (some ⟨gF,0,none⟩) (2*C.length+1) cF,.slice (some ⟨gT,0,none⟩) (2*C.length+1) cT] 63 (0,0)))
 have HT1:Hid (Y.heap[w.heap.size+1]?=some (.cells #[.int .i64 k,.int .i64 0,.int .i64 (y:Nat),.int .i64 ua,.bool ub,.int .i64 va,.bool vb,.bool ov] 28 (0,0))):=(by rw[hY];exact alloc_old (alloc_at (by simp)):Y.heap[w.heap.size+1]?=some (.cells #[.int .i64 k,.int .i64 0,.int .i64 (y:Nat),.int .i64 ua,.bool ub,.int .i64 va,.bool vb,.bool ov] 28 (0,0)))
 have HT2:Hid (Y.heap[w.heap.size+1+1]?=some (.cells #[.slice none 0 0,.int .i64 0] 24 (0,0))):=(by rw[hY];exact alloc_at (by simp):Y.heap[w.heap.size+1+1]?=some (.cells #[.slice none 0 0,.int .i64 0] 24 (0,0)))
 have hsY:Y.heap.size=w.heap.size+3:=by rw[hY];simp
 clear hY
 have HAB:=hid_of (and_bits hy)
 rw[show((2*C.length+2:Nat):Int)=2*(C.length:Int)+2 by omega,show((2*C.length+1:Nat):Int)=2*(C.length:Int)+1 by omega]
 obtain⟨z,hz⟩:∃ z,crossX (2*(C.length:Int)+1,2*(C.length:Int)+2) (2*(C.length:Int)+2,2*(C.length:Int)+1) (decide (2<=y)) (decide (y%2=1))=z:=⟨_,rfl⟩
 have HCX:=hid_of hz
 rw[hz]
 clear hz
 have hmk:∀ W:World,(Instr.makeMap 151 none).run Try.prog W=.ok (.map (some W.heap.size)) (W.alloc (.map #[] 0)):=fun _=>rfl
 clear hh hd hm
 have hd0:decide ((0:Int)<=(y:Nat))=true:=by simp
 have hd4:decide (((y:Nat):Int)<4)=true:=by simp;omega
 have hd6:decide ((C.length:Int)<16)=true:=by simp;omega
 have hlp:decide (0<loops)=true:=by simpa using hlo
 go_enter Try.func88,Try.ntmps88
 go_wp2_with (first
  |(go_at_call 105;rw[<-HW5.out];rw[HAB.out.1,HAB.out.2];refine(crossed_any (2*(C.length:Int)+1,2*(C.length:Int)+2) (2*(C.length:Int)+2,2*(C.length:Int)+1) (decide (2<=y)) (decide (y%2=1)) _).mono ?_;rw[HCX.out];rintro e9 w6 ⟨rfl,hb6⟩;refine Hid.out ?_)
  |(go_at_call 41;refine(need_ok 3 _).mono ?_;rintro e9 w4 ⟨rfl,e4⟩;obtain rfl:=e4.symm)
  |(go_at_call 41;refine(need_ok 2 _).mono ?_;rintro e9 w4 ⟨rfl,e4⟩;obtain rfl:=e4.symm)
  | (go_at_call 104; rw [← HY.out]; refine (HHS.out _).mono ?_; rintro e9 w3 ⟨rfl, hb3⟩
     have HB3:Hid (Below Y.heap.size Y w3):=hb3
     have hs3:=hb3.size
     have q0:=(hb3.block _ (by omega)).trans HT0.out
     have q1:=(hb3.block _ (by omega)).trans HT1.out
     have b0:w3.cell? ⟨w.heap.size,0,none⟩=some (.slice a C.length cap):=block_cell q0 rfl
     have b1:w3.cell? ⟨w.heap.size,1,none⟩=some (.int .i64 loops):=block_cell q0 rfl
     have b2:w3.cell? ⟨w.heap.size,2,none⟩=some (.slice (some ⟨gF,0,none⟩) (2*C.length+1) cF):=block_cell q0 rfl
     have b3:w3.cell? ⟨w.heap.size,3,none⟩=some (.slice (some ⟨gT,0,none⟩) (2*C.length+1) cT):=block_cell q0 rfl
     have m0:w3.cell? ⟨w.heap.size+1,0,none⟩=some (.int .i64 k):=block_cell q1 rfl
     have m1:w3.cell? ⟨w.heap.size+1,1,none⟩=some (.int .i64 0):=block_cell q1 rfl
     have m2:w3.cell? ⟨w.heap.size+1,2,none⟩=some (.int .i64 (y:Nat)):=block_cell q1 rfl
     have m3:w3.cell? ⟨w.heap.size+1,3,none⟩=some (.int .i64 ua):=block_cell q1 rfl
     have m4:w3.cell? ⟨w.heap.size+1,4,none⟩=some (.bool ub):=block_cell q1 rfl
     have m5:w3.cell? ⟨w.heap.size+1,5,none⟩=some (.int .i64 va):=block_cell q1 rfl
     have m6:w3.cell? ⟨w.heap.size+1,6,none⟩=some (.bool vb):=block_cell q1 rfl
     have m7:w3.cell? ⟨w.heap.size+1,7,none⟩=some (.bool ov):=block_cell q1 rfl
     have lb:w.heap.size<w3.heap.size:=by omega
     have lm:w.heap.size+1<w3.heap.size:=by omega
     have HDR:Hid (Dr w3 a cap C gF gT):=HD.out.on (HBY.out.trans (hb3.mono (by omega)))
     obtain⟨w5,hw5⟩:∃ w5,w5=w3.alloc (.map #[] 0):=⟨_,rfl⟩
     have HW5:=hid_of hw5
     have hmp:MapS w5 w3.heap.size 0 (fun _=>none):=by rw[hw5];exact MapS.made w3
     have hg5:(w3.alloc (.map #[] 0)).grownBy w5 (some w3.heap.size):=by rw[hw5];exact grown_below (Below.refl (w3.alloc (.map #[] 0)).heap.size _) _
     have HMP:=hid_of hmp
     have HG5:=hid_of hg5
     clear hw5
     have hltT:=HDR.out.ltT
     have hk5:∀ k,k<w3.heap.size->w5.heap[k]?=w3.heap[k]?:=fun k hk=>(hg5.block k (by simp;omega) (fun e=>by have:=Option.some.inj e;omega)).trans ((World.grownBy_alloc w3 _ none).block k hk (by simp))
     have p0:=(hk5 _ (by omega)).trans q0
     have p1:=(hk5 _ (by omega)).trans q1
     have hs5:w3.heap.size+1<=w5.heap.size:=by have:=hg5.size;simpa using this
     have v0:w5.cell? ⟨w.heap.size,0,none⟩=some (.slice a C.length cap):=block_cell p0 rfl
     have v1:w5.cell? ⟨w.heap.size,1,none⟩=some (.int .i64 loops):=block_cell p0 rfl
     have v2:w5.cell? ⟨w.heap.size,2,none⟩=some (.slice (some ⟨gF,0,none⟩) (2*C.length+1) cF):=block_cell p0 rfl
     have v3:w5.cell? ⟨w.heap.size,3,none⟩=some (.slice (some ⟨gT,0,none⟩) (2*C.length+1) cT):=block_cell p0 rfl
     have u0:w5.cell? ⟨w.heap.size+1,0,none⟩=some (.int .i64 k):=block_cell p1 rfl
     have u1:w5.cell? ⟨w.heap.size+1,1,none⟩=some (.int .i64 0):=block_cell p1 rfl
     have u2:w5.cell? ⟨w.heap.size+1,2,none⟩=some (.int .i64 y):=block_cell p1 rfl
     have u3:w5.cell? ⟨w.heap.size+1,3,none⟩=some (.int .i64 ua):=block_cell p1 rfl
     have u4:w5.cell? ⟨w.heap.size+1,4,none⟩=some (.bool ub):=block_cell p1 rfl
     have u5:w5.cell? ⟨w.heap.size+1,5,none⟩=some (.int .i64 va):=block_cell p1 rfl
     have u6:w5.cell? ⟨w.heap.size+1,6,none⟩=some (.bool vb):=block_cell p1 rfl
     have u7:w5.cell? ⟨w.heap.size+1,7,none⟩=some (.bool ov):=block_cell p1 rfl
     have HK5:=hid_of hk5
     have HQ0:=hid_of q0
     have HR3:=hid_of ((hb3.block _ (by omega)).trans HT2.out)
     clear hmp hg5 hk5 p0 p1
     clear hb3 q0 q1))
 refine Lib.hid ?_
 have HB6:Hid (Below w5.heap.size w5 w6):=hb6
 have hs6:=hb6.size
 clear hb6
 clear b0 b1 b2 b3 m0 m1 m2 m3 m4 m5 m6 m7 v0 v1 v2 v3 u0 u1 u2 u3 u4 u5 u6 u7 hmk
 obtain⟨V,hV⟩:∃ V,V=w6.alloc (.cells #[.int .i64 z.a,.int .i64 z.b,.int .i64 z.c,.int .i64 z.d,.bool z.plus] 71):=⟨_,rfl⟩
 have HV:=hid_of hV
 have hsV:V.heap.size=w6.heap.size+1:=by rw[hV];simp
 have HBV:Hid (Below w5.heap.size w5 V):=(by rw[hV];exact HB6.out.alloc (by omega) _:Below w5.heap.size w5 V)
 have HQ5:=hid_of ((HK5.out _ (by omega)).trans HQ0.out)
 have HR5:=hid_of ((HK5.out _ (by omega)).trans HR3.out)
 have HD5:Hid (Dr w5 a cap C gF gT):=(dr_grown HDR.out HG5.out)
 have HBW5:Hid (Below w.heap.size w w5):=(((HBY.out.trans (HB3.out.mono (by omega))).alloc (by omega) _).grown HG5.out (by simp;omega) (fun q hq=>by have:=Option.some.inj hq;omega))
 have HC:Hid (V.heap[w6.heap.size]?=some (.cells #[.int .i64 z.a,.int .i64 z.b,.int .i64 z.c,.int .i64 z.d,.bool z.plus] 71 (0,0))):=(by rw[hV];exact alloc_at rfl:V.heap[w6.heap.size]?=some (.cells #[.int .i64 z.a,.int .i64 z.b,.int .i64 z.c,.int .i64 z.d,.bool z.plus] 71 (0,0)))
 clear hV
 have HSV:Hid (∀ W,Below V.heap.size V W->(fun W:World=>W.cell? ⟨w.heap.size,0,none⟩=some (.slice a C.length cap)/\W.cell? ⟨w.heap.size,1,none⟩=some (.int .i64 loops)/\W.cell? ⟨w.heap.size,2,none⟩=some (.slice (some ⟨gF,0,none⟩) (2*C.length+1) cF)/\W.cell? ⟨w.heap.size,3,none⟩=some (.slice (some ⟨gT,0,none⟩) (2*C.length+1) cT)/\W.cell? ⟨w6.heap.size,0,none⟩=some (.int .i64 z.a)/\W.cell? ⟨w6.heap.size,1,none⟩=some (.int .i64 z.b)/\W.cell? ⟨w6.heap.size,2,none⟩=some (.int .i64 z.c)/\W.cell? ⟨w6.heap.size,3,none⟩=some (.int .i64 z.d)/\W.cell? ⟨w6.heap.size,4,none⟩=some (.bool z.plus)) W):=fun W hW=>by
  have hV5:=HBV.out.trans (hW.mono (by omega))
  have k0:=(hV5.block _ (by omega)).trans HQ5.out
  have k1:=(hW.block _ (by omega)).trans HC.out
  exact⟨block_cell k0 rfl,block_cell k0 rfl,block_cell k0 rfl,block_cell k0 rfl,block_cell k1 rfl,block_cell k1 rfl,block_cell k1 rfl,block_cell k1 rfl,block_cell k1 rfl⟩
 have HRL:=hid_of (fun(W:World) (hW:Below V.heap.size V W)=>HRA.out W gF cF gT cT _ _ _ (HD5.out.on (HBV.out.trans (hW.mono (by omega)))) (HMP.out.kept (grown_below (HBV.out.trans (hW.mono (by omega))) none) (by simp)))
 have HRV:Hid (V.heap[w.heap.size+1+1]?=some (.cells #[.slice none 0 0,.int .i64 0] 24 (0,0))):=(HBV.out.block _ (by omega)).trans HR5.out
 have HDV:Hid (Below V.heap.size V V.drew):=(Below.refl _ _).drew
 have HBW:Hid (Below w.heap.size w V):=HBW5.out.trans (HBV.out.mono (by omega))
 obtain⟨i0,hi,hz0,hz1,hz2⟩:=info_parts infoCross
 go_wp2
 rw[<-HV.out]
 refine wp_region_held_drew (S:=fun W:World=>W.cell? ⟨w.heap.size,0,none⟩=some (.slice a C.length cap)/\W.cell? ⟨w.heap.size,1,none⟩=some (.int .i64 loops)/\W.cell? ⟨w.heap.size,2,none⟩=some (.slice (some ⟨gF,0,none⟩) (2*C.length+1) cF)/\W.cell? ⟨w.heap.size,3,none⟩=some (.slice (some ⟨gT,0,none⟩) (2*C.length+1) cT)/\W.cell? ⟨w6.heap.size,0,none⟩=some (.int .i64 z.a)/\W.cell? ⟨w6.heap.size,1,none⟩=some (.int .i64 z.b)/\W.cell? ⟨w6.heap.size,2,none⟩=some (.int .i64 z.c)/\W.cell? ⟨w6.heap.size,3,none⟩=some (.int .i64 z.d)/\W.cell? ⟨w6.heap.size,4,none⟩=some (.bool z.plus)) (by kernel_rfl) (HSV.out _ HDV.out) (fun hHeld=>?_)
 refine tk 0 (h:=?_)
 refine tk 1 (h:=?_)
 refine tk 3 (h:=?_)
 refine tk 6 (h:=?_)
 try simp only[Act.put]
 refine wpAnyH_ready (rs:=[2,4]) (by kernel_rfl) (by simp) ?_
 refine AllReadyH.cons rfl (fun K hK=>?A) (AllReadyH.cons rfl (fun K hK=>?B) AllReadyH.nil)
 case' A=>
  go_simp
  go_wp2_with (go_at_call 106;refine(HRL.out _ HDV.out).mono ?_;rintro e9 wA ⟨a9,c9,rfl,hoA,hbA⟩)
  have HA:Hid (Below V.heap.size V wA):=(HDV.out).trans (hbA.mono (by simp))
  have HO:=hid_of (own_low (B':=V.heap.size) hoA (by simp))
  refine hK.out _ _ (HSV.out _ HA.out) (fun hHeld=>?_)
  clear hK K
  try simp only[Act.put]
  refine rd1 4 (fun K hK=>?_)
  have HX:Hid (Below V.heap.size V (wA.alloc (.cells #[.int .i64 z.a,.int .i64 z.b,.int .i64 z.c,.int .i64 z.d,.bool z.plus] 71))):=HA.out.alloc HA.out.size _
  go_simp
  refine hK.out _ _ (HSV.out _ HX.out) (fun hHeld=>?_)
  clear hK K
  try simp only[Act.put]
  refine rd1 5 (fun K hK=>?_)
  refine step_append_own rfl (.tmp 100) (.tmp 102) 22 rfl V.heap.size 71 i0 (.agg #[.int .i64 0,.int .i64 0,.int .i64 0,.int .i64 0,.bool false]) 5 40 Try.underlying22 hi hz0 hz1 hz2 rfl (by decide) _ C.length _ (by simp[Act.eval]) (HO.out.alloc _) ⟨wA.heap.size,0,none⟩ 1 1 [.int .i64 z.a,.int .i64 z.b,.int .i64 z.c,.int .i64 z.d,.bool z.plus] (by simp[Act.eval]) rfl (new_cell5 _ _ _ _ _ _ _) (cells_one [z]) (by unfold maxLen;omega) (by omega) (by have:=HA.out.size;simp<;>omega) ?_
 case' B=>
  have HX0:Hid (Below V.heap.size V (V.drew.alloc (.cells #[.int .i64 z.a,.int .i64 z.b,.int .i64 z.c,.int .i64 z.d,.bool z.plus] 71))):=HDV.out.alloc (Nat.le_refl _) _
  have HNW:Hid ((V.drew.alloc (.cells #[.int .i64 z.a,.int .i64 z.b,.int .i64 z.c,.int .i64 z.d,.bool z.plus] 71)).heap[V.heap.size]?=some (.cells #[.int .i64 z.a,.int .i64 z.b,.int .i64 z.c,.int .i64 z.d,.bool z.plus] 71 (0,0))):=(alloc_at rfl:(V.drew.alloc (.cells #[.int .i64 z.a,.int .i64 z.b,.int .i64 z.c,.int .i64 z.d,.bool z.plus] 71)).heap[V.drew.heap.size]?=some (.cells #[.int .i64 z.a,.int .i64 z.b,.int .i64 z.c,.int .i64 z.d,.bool z.plus] 71 (0,0)))
  go_simp
  refine hK.out _ _ (HSV.out _ HX0.out) (fun hHeld=>?_)
  clear hK K
  try simp only[Act.put]
  refine rd1 2 (fun K hK=>?_)
  go_simp
  go_wp2_with (go_at_call 106;refine(HRL.out _ HX0.out).mono ?_;rintro e9 wA ⟨a9,c9,rfl,hoA,hbA⟩)
  have HA:Hid (Below V.heap.size V wA):=(HX0.out).trans (hbA.mono (by simp))
  have HO:=hid_of (own_low (B':=V.heap.size) hoA (by simp))
  have HX:Hid (Below V.heap.size V wA):=HA.out
  have HN9:=hid_of ((hbA.block _ (by simp)).trans HNW.out)
  refine hK.out _ _ (HSV.out _ HA.out) (fun hHeld=>?_)
  clear hK K
  try simp only[Act.put]
  refine rd1 5 (fun K hK=>?_)
  refine step_append_own rfl (.tmp 100) (.tmp 102) 22 rfl V.heap.size 71 i0 (.agg #[.int .i64 0,.int .i64 0,.int .i64 0,.int .i64 0,.bool false]) 5 40 Try.underlying22 hi hz0 hz1 hz2 rfl (by decide) _ C.length _ (by simp[Act.eval]) HO.out ⟨V.heap.size,0,none⟩ 1 1 [.int .i64 z.a,.int .i64 z.b,.int .i64 z.c,.int .i64 z.d,.bool z.plus] (by simp[Act.eval]) rfl (block_cell5 HN9.out) (cells_one [z]) (by unfold maxLen;omega) (by omega) (by have:=HA.out.size;simp<;>omega) ?_
 all_goals
  intro v8 w8 hown8 hg8
  have H8:Hid (Below V.heap.size V w8):=(HX.out.grown hg8 HX.out.size (fun q hq=>(HO.out.lt q hq).1))
  obtain⟨a8,c8,rfl⟩:=own_capS hown8
  have HO8:=hid_of hown8
  refine hK.out _ _ (HSV.out _ H8.out) (fun hHeld=>?_)
  clear hK K hown8 hg8
  refine tk 7 (h:=?_)
  try simp only[Act.put]
  have q2:=(H8.out.block _ (by omega)).trans HRV.out
  have hs8:=H8.out.size
  have r0:w8.cell? ⟨w.heap.size+1+1,0,none⟩=some (.slice none 0 0):=block_cell q2 rfl
  have r1:w8.cell? ⟨w.heap.size+1+1,1,none⟩=some (.int .i64 0):=block_cell q2 rfl
  have z0:w8.frozen? ⟨w.heap.size+1+1,0,none⟩=false:=block_frozen q2
  have z1:w8.frozen? ⟨w.heap.size+1+1,1,none⟩=false:=block_frozen q2
  have l2:w.heap.size+1+1<w8.heap.size:=by omega
  obtain⟨Z,hZ⟩:∃ Z,Z=(w8.setCell ⟨w.heap.size+1+1,0,none⟩ (.slice a8 (C.length+1) c8)).setCell ⟨w.heap.size+1+1,1,none⟩ (.int .i64 (loops - 1)):=⟨_,rfl⟩
  have HZE:=hid_of hZ
  have hgZ:w8.grownBy Z (some (w.heap.size+1+1)):=by rw[hZ];exact grown_trans (set_grown _ _ _ _) (set_grown _ _ _ _)
  have hZ2:Z.heap[w.heap.size+1+1]?=some (.cells #[.slice a8 (C.length+1) c8,.int .i64 (loops-1)] 24 (0,0)):=by rw[hZ,set_block (set_block q2)];rfl
  have HZB:Hid (Below w.heap.size w Z):=(HBW.out.trans (H8.out.mono (by omega))).grown hgZ (by omega) (fun q hq=>by have:=Option.some.inj hq;omega)
  have HSZ:Hid ((fun W:World=>W.cell? ⟨w.heap.size,0,none⟩=some (.slice a C.length cap)/\W.cell? ⟨w.heap.size,1,none⟩=some (.int .i64 loops)/\W.cell? ⟨w.heap.size,2,none⟩=some (.slice (some ⟨gF,0,none⟩) (2*C.length+1) cF)/\W.cell? ⟨w.heap.size,3,none⟩=some (.slice (some ⟨gT,0,none⟩) (2*C.length+1) cT)/\W.cell? ⟨w6.heap.size,0,none⟩=some (.int .i64 z.a)/\W.cell? ⟨w6.heap.size,1,none⟩=some (.int .i64 z.b)/\W.cell? ⟨w6.heap.size,2,none⟩=some (.int .i64 z.c)/\W.cell? ⟨w6.heap.size,3,none⟩=some (.int .i64 z.d)/\W.cell? ⟨w6.heap.size,4,none⟩=some (.bool z.plus)) Z):=(by
   obtain⟨k0,k1,k2,k3,k4,k5,k6,k7,k8⟩:=HSV.out _ H8.out
   have hn0:some w.heap.size≠some (w.heap.size+1+1):=fun e=>by have:=Option.some.inj e;omega
   have hn1:some w6.heap.size≠some (w.heap.size+1+1):=fun e=>by have:=Option.some.inj e;omega
   have gc {b o:Nat} {v:Option Value} (hb:b<w8.heap.size) (hne:some b≠some (w.heap.size+1+1)) (hc:w8.cell? ⟨b,o,none⟩=v):Z.cell? ⟨b,o,none⟩=v:=by
    rw[<-hc]
    unfold World.cell?
    simp only[]
    rw[hgZ.block b hb hne]
   exact⟨gc (by omega) hn0 k0,gc (by omega) hn0 k1,gc (by omega) hn0 k2,gc (by omega) hn0 k3,gc (by omega) hn1 k4,gc (by omega) hn1 k5,gc (by omega) hn1 k6,gc (by omega) hn1 k7,gc (by omega) hn1 k8⟩)
  have HOZ:=hid_of (HO8.out.kept hgZ (by
   cases hv:(Value.slice a8 (C.length+1) c8).ownBlock with
   |none=>exact Or.inl rfl
   |some k=>exact Or.inr (fun e=>by have h1:=(HO8.out.lt k hv).1;have h2:=Option.some.inj e;omega)))
  clear hZ hgZ q2
  refine rd1 8 (fun K hK=>?_)
  go_simp
  rw[<-HZE.out]
  refine hK.out _ _ HSZ.out (fun hHeld=>?_)
  clear hK K
  try simp only[Act.put]
  refine wpAnyH_done (by kernel_rfl) ?_ _
  clear hHeld
  go_wp2
  have x0:=block_cell (i:=0) (v:=.slice a8 (C.length+1) c8) hZ2 rfl
  have x1:=block_cell (i:=1) (v:=.int .i64 (loops-1)) hZ2 rfl
  refine bodyPost_ret (v:=.agg #[.slice a8 (C.length+1) c8,.int .i64 (loops-1)]) (by simp[results,Try.results88,go_sem,x0,x1]) rfl ⟨a8,c8,rfl,?_,HZB.out⟩
  have e:∀ L:List Cr,crossCells (L++[z])=crossCells L++[.int .i64 z.a,.int .i64 z.b,.int .i64 z.c,.int .i64 z.d,.bool z.plus]:=fun L=>by simp[crossCells]
  rw[e]
  exact own_low HOZ.out (by omega)
end Go.Proofs.Ytagaajlbkfkaiaa
/- Moves: the walk of bench.push from its new arcs on. Made by genmv9b.py. -/
namespace Go.Proofs.Ytagaajlbkfkaiaa
open Go.RowKit Go.Maps
set_option maxHeartbeats 16000000
set_option maxRecDepth 100000
structure UvAt (w W:World) (bs ms us vs:Array Value) (g5 g6:Nat):Prop where
 b0:W.heap[w.heap.size]?=some (.cells bs 63 (0,0))
 b1:W.heap[w.heap.size+1]?=some (.cells ms 28 (0,0))
 b2:W.heap[w.heap.size+1+1]?=some (.cells #[.slice none 0 0,.int .i64 0] 24 (0,0))
 b5:W.heap[g5]?=some (.cells us 26 (0,0))
 b6:W.heap[g6]?=some (.cells vs 26 (0,0))
 ne:g5≠g6
 l5:w.heap.size+2<g5
 l6:w.heap.size+2<g6
 bel:Below w.heap.size w W
theorem UvAt.on {w W W':World} {bs ms us vs:Array Value} {g5 g6:Nat} (h:UvAt w W bs ms us vs g5 g6) (hb:Below W.heap.size W W'):UvAt w W' bs ms us vs g5 g6:=
 have hl {k:Nat} {o:Obj} (e:W.heap[k]?=some o):W'.heap[k]?=some o:=(hb.block _ (Array.getElem?_eq_some_iff.1 e).1).trans e
 ⟨hl h.b0,hl h.b1,hl h.b2,hl h.b5,hl h.b6,h.ne,h.l5,h.l6,h.bel.trans (hb.mono h.bel.size)⟩
structure TwP (Z W:World) (p q:Int×Int):Prop where
 b0:W.heap[Z.heap.size]?=some (.cells #[.int .i64 p.1,.int .i64 p.2] 154 (0,0))
 b1:W.heap[Z.heap.size+1]?=some (.cells #[.int .i64 q.1,.int .i64 q.2] 154 (0,0))
 bel:Below Z.heap.size Z W
theorem TwP.on {Z W W':World} {p q:Int×Int} (h:TwP Z W p q) (hb:Below W.heap.size W W'):TwP Z W' p q:=
 have hl {k:Nat} {o:Obj} (e:W.heap[k]?=some o):W'.heap[k]?=some o:=(hb.block _ (Array.getElem?_eq_some_iff.1 e).1).trans e
 ⟨hl h.b0,hl h.b1,h.bel.trans (hb.mono h.bel.size)⟩
theorem TwP.made (Z:World) (p q:Int×Int):TwP Z ((Z.alloc (.cells #[.int .i64 p.1,.int .i64 p.2] 154)).alloc (.cells #[.int .i64 q.1,.int .i64 q.2] 154)) p q:=
 ⟨alloc_old (alloc_at rfl),alloc_at (by simp),below2 _ _ _⟩
theorem st2b {W:World} {z:Nat} {a b c d:Value} {t:TypeId} {fz:Nat×Nat} (h:W.heap[z]?=some (.cells #[c,d] t fz)):((W.setCell ⟨z,0,none⟩ a).setCell ⟨z,1,none⟩ b).heap[z]?=some (.cells #[a,b] t fz):=by
 rw[set_block (set_block h)]
 rfl
theorem TwP.swap {Z W:World} {p q:Int×Int} (h:TwP Z W p q) (x y x2 y2:Int):TwP Z ((((W.setCell ⟨Z.heap.size,0,none⟩ (.int .i64 x)).setCell ⟨Z.heap.size,1,none⟩ (.int .i64 y)).setCell ⟨Z.heap.size+1,0,none⟩ (.int .i64 x2)).setCell ⟨Z.heap.size+1,1,none⟩ (.int .i64 y2)) (x,y) (x2,y2):=by
 have l1:Z.heap.size+1<W.heap.size:=(Array.getElem?_eq_some_iff.1 h.b1).1
 have g1:=st2_grown W Z.heap.size 0 (.int .i64 x) (.int .i64 y)
 have g2:=st2_grown ((W.setCell ⟨Z.heap.size,0,none⟩ (.int .i64 x)).setCell ⟨Z.heap.size,1,none⟩ (.int .i64 y)) (Z.heap.size+1) 0 (.int .i64 x2) (.int .i64 y2)
 have s1:W.heap.size<=((W.setCell ⟨Z.heap.size,0,none⟩ (.int .i64 x)).setCell ⟨Z.heap.size,1,none⟩ (.int .i64 y)).heap.size:=g1.size
 refine⟨?_,?_,?_⟩
 · exact(g2.block Z.heap.size (by omega) (fun e=>by have:=Option.some.inj e;omega)).trans (st2b h.b0)
 · exact st2b ((g1.block (Z.heap.size+1) l1 (fun e=>by have:=Option.some.inj e;omega)).trans h.b1)
 · exact(h.bel.grown g1 (by omega) (fun q hq=>by have:=Option.some.inj hq;omega)).grown g2 (Nat.le_trans h.bel.size g1.size) (fun q hq=>by have:=Option.some.inj hq;omega)
theorem wpAnyH_like {P:Program} {ops:Array Oper} {Q:Exit->Act->World->Prop} {md:Region.Mode} {S:World->Prop} {fuel:Nat} {l l':Array Bool} {a:Act} {w:World} (e:l=l') (h:wpAnyH P md ops Q S fuel l' a w):wpAnyH P md ops Q S fuel l a w:=e▸h
structure PqAt (Z W:World) (p q:Cr) (g h:Nat):Prop where
 b0:W.heap[g]?=some (.cells #[.int .i64 p.a,.int .i64 p.b,.int .i64 p.c,.int .i64 p.d,.bool p.plus] 71 (0,0))
 b1:W.heap[h]?=some (.cells #[.int .i64 q.a,.int .i64 q.b,.int .i64 q.c,.int .i64 q.d,.bool q.plus] 71 (0,0))
 ne:g≠h
 l0:Z.heap.size<=g
 l1:Z.heap.size<=h
 bel:Below Z.heap.size Z W
theorem PqAt.on {Z W W':World} {p q:Cr} {g h:Nat} (a:PqAt Z W p q g h) (hb:Below W.heap.size W W'):PqAt Z W' p q g h:=
 have hl {k:Nat} {o:Obj} (e:W.heap[k]?=some o):W'.heap[k]?=some o:=(hb.block _ (Array.getElem?_eq_some_iff.1 e).1).trans e
 ⟨hl a.b0,hl a.b1,a.ne,a.l0,a.l1,a.bel.trans (hb.mono a.bel.size)⟩
theorem PqAt.of {Z W:World} {g h:Nat} (a:W.heap[g]?=some (.cells #[.int .i64 0,.int .i64 0,.int .i64 0,.int .i64 0,.bool false] 71 (0,0))/\W.heap[h]?=some (.cells #[.int .i64 0,.int .i64 0,.int .i64 0,.int .i64 0,.bool false] 71 (0,0))/\g≠h/\Z.heap.size<=g/\Z.heap.size<=h/\Below Z.heap.size Z W):PqAt Z W ⟨0,0,0,0,false⟩ ⟨0,0,0,0,false⟩ g h:=⟨a.1,a.2.1,a.2.2.1,a.2.2.2.1,a.2.2.2.2.1,a.2.2.2.2.2⟩
theorem st5b {w:World} {g:Nat} {t:TypeId} {fz:Nat×Nat} {a b c d e:Value} (v0 v1 v2 v3 v4:Value) (h:w.heap[g]?=some (.cells #[a,b,c,d,e] t fz)):
    (((((w.setCell ⟨g,0,none⟩ v0).setCell ⟨g,1,none⟩ v1).setCell ⟨g,2,none⟩ v2).setCell ⟨g,3,none⟩ v3).setCell ⟨g,4,none⟩ v4).heap[g]?=some (.cells #[v0,v1,v2,v3,v4] t fz):=by
 rw[set_block (set_block (set_block (set_block (set_block h))))]
 rfl
theorem st5n (w:World) (g:Nat) (v0 v1 v2 v3 v4:Value):w.grownBy (((((w.setCell ⟨g,0,none⟩ v0).setCell ⟨g,1,none⟩ v1).setCell ⟨g,2,none⟩ v2).setCell ⟨g,3,none⟩ v3).setCell ⟨g,4,none⟩ v4) (some g):=
 grown_trans (grown_trans (grown_trans (grown_trans (set_grown _ _ _ _) (set_grown _ _ _ _)) (set_grown _ _ _ _)) (set_grown _ _ _ _)) (set_grown _ _ _ _)
theorem PqAt.set0 {Z W:World} {p q:Cr} {g h:Nat} (a:PqAt Z W p q g h) (x:Cr):PqAt Z (((((W.setCell ⟨g,0,none⟩ (.int .i64 x.a)).setCell ⟨g,1,none⟩ (.int .i64 x.b)).setCell ⟨g,2,none⟩ (.int .i64 x.c)).setCell ⟨g,3,none⟩ (.int .i64 x.d)).setCell ⟨g,4,none⟩ (.bool x.plus)) x q g h:=
 have hg:=st5n W g (.int .i64 x.a) (.int .i64 x.b) (.int .i64 x.c) (.int .i64 x.d) (.bool x.plus)
 ⟨st5b _ _ _ _ _ a.b0,(hg.block h (Array.getElem?_eq_some_iff.1 a.b1).1 (fun e=>a.ne (Option.some.inj e).symm)).trans a.b1,a.ne,a.l0,a.l1,a.bel.grown hg a.bel.size (fun q hq=>by have:=Option.some.inj hq;have:=a.l0;omega)⟩
theorem PqAt.set1 {Z W:World} {p q:Cr} {g h:Nat} (a:PqAt Z W p q g h) (x:Cr):PqAt Z (((((W.setCell ⟨h,0,none⟩ (.int .i64 x.a)).setCell ⟨h,1,none⟩ (.int .i64 x.b)).setCell ⟨h,2,none⟩ (.int .i64 x.c)).setCell ⟨h,3,none⟩ (.int .i64 x.d)).setCell ⟨h,4,none⟩ (.bool x.plus)) p x g h:=
 have hg:=st5n W h (.int .i64 x.a) (.int .i64 x.b) (.int .i64 x.c) (.int .i64 x.d) (.bool x.plus)
 ⟨(hg.block g (Array.getElem?_eq_some_iff.1 a.b0).1 (fun e=>a.ne (Option.some.inj e))).trans a.b0,st5b _ _ _ _ _ a.b1,a.ne,a.l0,a.l1,a.bel.grown hg a.bel.size (fun q hq=>by have:=Option.some.inj hq;have:=a.l1;omega)⟩
theorem block_cells {W:World} {b:Nat} {e:TypeId} {cs:List Value} (h:W.heap[b]?=some (.cells cs.toArray e (0,0))):∀ j u,cs[j]?=some u->W.cell? ((⟨b,0,none⟩:Addr).add j)=some u:=by
 intro j u hj
 rw[Addr.add_lit,Nat.zero_add]
 exact block_cell h (by simpa using hj)
def codeAt (n:Nat):Code->Code
 |.seq (.region m a b) c=>if m=n then .seq (.region m a b) c else codeAt n c
 |.seq _ c=>codeAt n c
 |c=>c
theorem push7 (a:Option Addr) (cap:Nat) (C:List Cr) (loops:Int) (gF cF gT cT:Nat) (k x y:Int) (un vn:Nat) (ub vb ov:Bool) (gM mM:Nat) (F:Nat->Option Int) (g5 g6:Nat) (w W6:World) (P:Ending->World->Prop) (hm:mayD C loops=true) (hn:C.length+2<=16) (hd:Dr W6 a cap C gF gT) (hM:MapS W6 gM mM F) (hU:UvAt w W6 #[.slice a C.length cap,.int .i64 loops,.slice (some ⟨gF,0,none⟩) (2*C.length+1) cF,.slice (some ⟨gT,0,none⟩) (2*C.length+1) cT] #[.int .i64 k,.int .i64 x,.int .i64 y,.int .i64 (un:Nat),.bool ub,.int .i64 (vn:Nat),.bool vb,.bool ov] #[.int .i64 (un:Nat),.bool ub] #[.int .i64 (vn:Nat),.bool vb] g5 g6)
    (hP:∀ a' c' w',w'.ownsRow w.heap.size 71 5 (.slice a' (C.length+2) c') (C.length+2) (crossCells (relN F C C.length++[crossX (if ub then(2*(C.length:Int)+1,2*(C.length:Int)+2) else((un:Int),2*(C.length:Int)+1)) (if vb then((vn:Int),2*(C.length:Int)+3) else(2*(C.length:Int)+3,2*(C.length:Int)+4)) ov (ov==(ub==vb)),crossX (if ub then((un:Int),2*(C.length:Int)+1) else(2*(C.length:Int)+1,2*(C.length:Int)+2)) (if vb then(2*(C.length:Int)+3,2*(C.length:Int)+4) else((vn:Int),2*(C.length:Int)+3)) ov (!(ov==(ub==vb)))]))->Below w.heap.size w w'->P (.returned (.agg #[.slice a' (C.length+2) c',.int .i64 loops])) w') (z9 z10 z11 z12 z13 z14 z15 z16 z17 z18 z19 z20 z21 z22 z23 z24 z25 z26 z27 z28 z29 z30 z31 z32 z33 z34 z35 z36 z37 z38 z39 z40 z41 z42 z43 z44 z45 z46 z47 z48 z49 z50 z51 z52 z53 z54 z55 z56 z57 z58 z59 z60 z61 z62 z63 z64 z65 z66 z67 z68 z69 z70 z71 z72 z73 z74 z75 z76 z77 z78 z79 z80 z81 z82 z83 z84 z85 z86 z87 z88 z89 z90 z91 z92 z93 z94 z95 z96 z97 z98 z99 z100 z101 z102 z103 z104 z105 z106 z107 z108 z109 z110 z111 z112 z113 z114 z115 z116 z117 z118 z119 z120 z121 z122 z123 z124 z125 z126 z127 z128 z129 z130 z131 z132 z133 z134 z135 z136 z137 z138 z139 z140 z141 z142:Value):
    Code.wp Try.prog (codeAt 7 (Try.f90.body.getD .skip)) (bodyPost Try.prog Try.f90 P) { tmps := #[.agg #[.slice a C.length cap, .int .i64 loops, .slice (some ⟨gF, 0, none⟩) (2 * C.length + 1) cF, .slice (some ⟨gT, 0, none⟩) (2 * C.length + 1) cT], .agg #[.int .i64 k, .int .i64 x, .int .i64 y, .int .i64 (un : Nat), .bool ub, .int .i64 (vn : Nat), .bool vb, .bool ov], .pointer (some ⟨w.heap.size, 0, none⟩), .pointer (some ⟨w.heap.size + 1, 0, none⟩), .pointer (some ⟨w.heap.size + 1 + 1, 0, none⟩), .pointer (some ⟨g5, 0, none⟩), .pointer (some ⟨g6, 0, none⟩), .int .i64 (C.length : Int), .map (some gM), z9, z10, z11, z12, z13, z14, z15, z16, z17, z18, z19, z20, z21, z22, z23, z24, z25, z26, z27, z28, z29, z30, z31, z32, z33, z34, z35, z36, z37, z38, z39, z40, z41, z42, z43, z44, z45, z46, z47, z48, z49, z50, z51, z52, z53, z54, z55, z56, z57, z58, z59, z60, z61, z62, z63, z64, z65, z66, z67, z68, z69, z70, z71, z72, z73, z74, z75, z76, z77, z78, z79, z80, z81, z82, z83, z84, z85, z86, z87, z88, z89, z90, z91, z92, z93, z94, z95, z96, z97, z98, z99, z100, z101, z102, z103, z104, z105, z106, z107, z108, z109, z110, z111, z112, z113, z114, z115, z116, z117, z118, z119, z120, z121, z122, z123, z124, z125, z126, z127, z128, z129, z130, z131, z132, z133, z134, z135, z136, z137, z138, z139, z140, z141, z142], defers := [] } W6 := by
 have HD:=hid_of hd
 have HMP:=hid_of hM
 have HU:=hid_of hU
 have HPP:=hid_of hP
 have HRA:=hid_of (fun(w:World) (gF cF gT cT:Nat) (b m:Nat) (F:Nat->Option Int)=>relaid_any a cap C loops gF cF gT cT b m F w hm)
 unfold drV at HRA
 have b5:=block_cell (i:=0) hU.b5 rfl
 have b5b:=block_cell (i:=1) hU.b5 rfl
 have l5:g5<W6.heap.size:=(Array.getElem?_eq_some_iff.1 hU.b5).1
 have l6:g6<W6.heap.size:=(Array.getElem?_eq_some_iff.1 hU.b6).1
 have l51:g5<W6.heap.size+1:=by omega
 clear hm hd hM hU hP
 let Q9:Exit->Act->World->Prop:=bodyPost Try.prog Try.f90 P
 change Code.wp Try.prog (codeAt 7 (Try.f90.body.getD .skip)) Q9 { tmps:=#[.agg #[.slice a C.length cap,.int .i64 loops,.slice (some ⟨gF,0,none⟩) (2*C.length+1) cF,.slice (some ⟨gT,0,none⟩) (2*C.length+1) cT],.agg #[.int .i64 k,.int .i64 x,.int .i64 y,.int .i64 (un:Nat),.bool ub,.int .i64 (vn:Nat),.bool vb,.bool ov],.pointer (some ⟨w.heap.size,0,none⟩),.pointer (some ⟨w.heap.size+1,0,none⟩),.pointer (some ⟨w.heap.size+1+1,0,none⟩),.pointer (some ⟨g5,0,none⟩),.pointer (some ⟨g6,0,none⟩),.int .i64 (C.length:Int),.map (some gM),z9,z10,z11,z12,z13,z14,z15,z16,z17,z18,z19,z20,z21,z22,z23,z24,z25,z26,z27,z28,z29,z30,z31,z32,z33,z34,z35,z36,z37,z38,z39,z40,z41,z42,z43,z44,z45,z46,z47,z48,z49,z50,z51,z52,z53,z54,z55,z56,z57,z58,z59,z60,z61,z62,z63,z64,z65,z66,z67,z68,z69,z70,z71,z72,z73,z74,z75,z76,z77,z78,z79,z80,z81,z82,z83,z84,z85,z86,z87,z88,z89,z90,z91,z92,z93,z94,z95,z96,z97,z98,z99,z100,z101,z102,z103,z104,z105,z106,z107,z108,z109,z110,z111,z112,z113,z114,z115,z116,z117,z118,z119,z120,z121,z122,z123,z124,z125,z126,z127,z128,z129,z130,z131,z132,z133,z134,z135,z136,z137,z138,z139,z140,z141,z142],defers:=[] } W6
 simp only[codeAt,Try.f90,Option.getD_some,reduceIte,Nat.reduceEqDiff]
 obtain⟨X,hX⟩:∃ X,(W6.alloc (.cells #[.int .i64 (un:Nat),.int .i64 (2*(C.length:Int)+1)] 154)).alloc (.cells #[.int .i64 (2*(C.length:Int)+1),.int .i64 (2*(C.length:Int)+2)] 154)=X:=⟨_,rfl⟩
 have HX:=hid_of hX
 have hTX:TwP W6 X ((un:Int),2*(C.length:Int)+1) (2*(C.length:Int)+1,2*(C.length:Int)+2):=by rw[<-hX];exact TwP.made W6 ((un:Int),2*(C.length:Int)+1) (2*(C.length:Int)+1,2*(C.length:Int)+2)
 have HTX:=hid_of hTX
 clear hX hTX
 go_upto_region 8 with(fail)
 rw[HX.out]
 clear b5 b5b l51
 have HUX:=hid_of (HU.out.on HTX.out.bel)
 have b5b:=block_cell (i:=1) HUX.out.b5 rfl
 have b9a:=block_cell (i:=0) HTX.out.b0 rfl
 have b9b:=block_cell (i:=1) HTX.out.b0 rfl
 have b10a:=block_cell (i:=0) HTX.out.b1 rfl
 have b10b:=block_cell (i:=1) HTX.out.b1 rfl
 have f9a:=block_frozen (i:=0) HTX.out.b0
 have f9b:=block_frozen (i:=1) HTX.out.b0
 have f10a:=block_frozen (i:=0) HTX.out.b1
 have f10b:=block_frozen (i:=1) HTX.out.b1
 have lX:W6.heap.size+1<X.heap.size:=(Array.getElem?_eq_some_iff.1 HTX.out.b1).1
 have HSW : Hid (TwP W6 ((((X.setCell ⟨W6.heap.size, 0, none⟩ (.int .i64 (2 * (C.length : Int) + 1))).setCell ⟨W6.heap.size, 1, none⟩ (.int .i64 (2 * (C.length : Int) + 2))).setCell ⟨W6.heap.size + 1, 0, none⟩ (.int .i64 (un : Nat))).setCell ⟨W6.heap.size + 1, 1, none⟩ (.int .i64 (2 * (C.length : Int) + 1))) (2 * (C.length : Int) + 1, 2 * (C.length : Int) + 2) ((un : Int), 2 * (C.length : Int) + 1)) := HTX.out.swap _ _ _ _
 go_upto_if 90 with(fail)
 go_cut [] from 16 (fun wx=>TwP W6 wx (if ub then(2*(C.length:Int)+1,2*(C.length:Int)+2) else((un:Int),2*(C.length:Int)+1)) (if ub then((un:Int),2*(C.length:Int)+1) else(2*(C.length:Int)+1,2*(C.length:Int)+2)))
 case first=>
  cases ub with
  |false=>
   go_wp2
   go_meet
   exact HTX.out
  |true=>
   go_wp2
   go_meet
   exact HSW.out
 case rest=>
  rename World=>X1
  have HT1:=hid_of hcut
  clear hcut b5b b9a b9b b10a b10b f9a f9b f10a f10b HSW HTX HX HUX lX
  clear X
  have HU1:=hid_of (HU.out.on HT1.out.bel)
  have b6a:=block_cell (i:=0) HU1.out.b6 rfl
  have l61:g6<X1.heap.size:=(Array.getElem?_eq_some_iff.1 HU1.out.b6).1
  have l62:g6<X1.heap.size+1:=by omega
  obtain⟨Y,hY⟩:∃ Y,(X1.alloc (.cells #[.int .i64 (vn:Nat),.int .i64 (2*(C.length:Int)+3)] 154)).alloc (.cells #[.int .i64 (2*(C.length:Int)+3),.int .i64 (2*(C.length:Int)+4)] 154)=Y:=⟨_,rfl⟩
  have HY:=hid_of hY
  have hTY:TwP X1 Y ((vn:Int),2*(C.length:Int)+3) (2*(C.length:Int)+3,2*(C.length:Int)+4):=by rw[<-hY];exact TwP.made X1 ((vn:Int),2*(C.length:Int)+3) (2*(C.length:Int)+3,2*(C.length:Int)+4)
  have HTY:=hid_of hTY
  clear hY hTY
  go_upto_region 11 with(fail)
  rw[HY.out]
  clear b6a l62
  have HUY:=hid_of (HU1.out.on HTY.out.bel)
  have b6b:=block_cell (i:=1) HUY.out.b6 rfl
  have b11a:=block_cell (i:=0) HTY.out.b0 rfl
  have b11b:=block_cell (i:=1) HTY.out.b0 rfl
  have b12a:=block_cell (i:=0) HTY.out.b1 rfl
  have b12b:=block_cell (i:=1) HTY.out.b1 rfl
  have f11a:=block_frozen (i:=0) HTY.out.b0
  have f11b:=block_frozen (i:=1) HTY.out.b0
  have f12a:=block_frozen (i:=0) HTY.out.b1
  have f12b:=block_frozen (i:=1) HTY.out.b1
  have lY:X1.heap.size+1<Y.heap.size:=(Array.getElem?_eq_some_iff.1 HTY.out.b1).1
  have HSW : Hid (TwP X1 ((((Y.setCell ⟨X1.heap.size, 0, none⟩ (.int .i64 (2 * (C.length : Int) + 3))).setCell ⟨X1.heap.size, 1, none⟩ (.int .i64 (2 * (C.length : Int) + 4))).setCell ⟨X1.heap.size + 1, 0, none⟩ (.int .i64 (vn : Nat))).setCell ⟨X1.heap.size + 1, 1, none⟩ (.int .i64 (2 * (C.length : Int) + 3))) (2 * (C.length : Int) + 3, 2 * (C.length : Int) + 4) ((vn : Int), 2 * (C.length : Int) + 3)) := HTY.out.swap _ _ _ _
  go_upto_if 107 with(fail)
  go_cut [] from 16 (fun wx=>TwP X1 wx (if vb then(2*(C.length:Int)+3,2*(C.length:Int)+4) else((vn:Int),2*(C.length:Int)+3)) (if vb then((vn:Int),2*(C.length:Int)+3) else(2*(C.length:Int)+3,2*(C.length:Int)+4)))
  case first=>
   cases vb with
   |false=>
    go_wp2
    go_meet
    exact HTY.out
   |true=>
    go_wp2
    go_meet
    exact HSW.out
  case rest=>
   rename World=>X2
   have HT2:=hid_of hcut
   clear hcut b6b b11a b11b b12a b12b f11a f11b f12a f12b HSW HTY HY HUY lY
   clear Y
   have HU2:=hid_of (HU1.out.on HT2.out.bel)
   have HA2:=hid_of (HT1.out.on HT2.out.bel)
   have m7:=block_cell (i:=7) HU2.out.b1 rfl
   have b5b:=block_cell (i:=1) HU2.out.b5 rfl
   have b6b:=block_cell (i:=1) HU2.out.b6 rfl
   have k1:w.heap.size+1<X2.heap.size:=(Array.getElem?_eq_some_iff.1 HU2.out.b1).1
   have k5:g5<X2.heap.size:=(Array.getElem?_eq_some_iff.1 HU2.out.b5).1
   have k6:g6<X2.heap.size:=(Array.getElem?_eq_some_iff.1 HU2.out.b6).1
   obtain⟨up,hup⟩:∃ up,(if ub then(2*(C.length:Int)+1,2*(C.length:Int)+2) else((un:Int),2*(C.length:Int)+1))=up:=⟨_,rfl⟩
   obtain⟨uq,huq⟩:∃ uq,(if ub then((un:Int),2*(C.length:Int)+1) else(2*(C.length:Int)+1,2*(C.length:Int)+2))=uq:=⟨_,rfl⟩
   obtain⟨vp,hvp⟩:∃ vp,(if vb then((vn:Int),2*(C.length:Int)+3) else(2*(C.length:Int)+3,2*(C.length:Int)+4))=vp:=⟨_,rfl⟩
   obtain⟨vq,hvq⟩:∃ vq,(if vb then(2*(C.length:Int)+3,2*(C.length:Int)+4) else((vn:Int),2*(C.length:Int)+3))=vq:=⟨_,rfl⟩
   rw[hup,huq]at HA2
   rw[hvp,hvq]at HT2
   rw[hup,huq,hvp,hvq]at HPP
   clear hup huq hvp hvq HT1 HU1 HU
   go_upto_region 14 with(fail)
   obtain⟨pl,hpl⟩:∃ pl,(ov==(ub==vb))=pl:=⟨_,rfl⟩
   rw[hpl]
   rw[hpl]at HPP
   clear hpl m7 b5b b6b k5 k6
   have HX1:=hid_of (fun W:World=>crossed_any up vp ov pl W)
   have HX2:=hid_of (fun W:World=>crossed_any uq vq ov (!pl) W)
   obtain⟨c1,hc1⟩:∃ c,crossX up vp ov pl=c:=⟨_,rfl⟩
   obtain⟨c2,hc2⟩:∃ c,crossX uq vq ov (!pl)=c:=⟨_,rfl⟩
   rw[hc1]at HX1 HPP
   rw[hc2]at HX2 HPP
   clear hc1 hc2
   have HSV:Hid (∀ X,Below X2.heap.size X2 X->(fun X:World=>X.cell? ⟨W6.heap.size,0,none⟩=some (.int .i64 up.1)/\X.cell? ⟨W6.heap.size,1,none⟩=some (.int .i64 up.2)/\X.cell? ⟨W6.heap.size+1,0,none⟩=some (.int .i64 uq.1)/\X.cell? ⟨W6.heap.size+1,1,none⟩=some (.int .i64 uq.2)/\X.cell? ⟨X1.heap.size,0,none⟩=some (.int .i64 vq.1)/\X.cell? ⟨X1.heap.size,1,none⟩=some (.int .i64 vq.2)/\X.cell? ⟨X1.heap.size+1,0,none⟩=some (.int .i64 vp.1)/\X.cell? ⟨X1.heap.size+1,1,none⟩=some (.int .i64 vp.2)/\X.cell? ⟨w.heap.size+1,7,none⟩=some (.bool ov)) X):=fun X hX=>by
    have p:=HA2.out.on hX
    have q:=HT2.out.on hX
    have r:=HU2.out.on hX
    exact⟨block_cell p.b0 rfl,block_cell p.b0 rfl,block_cell p.b1 rfl,block_cell p.b1 rfl,block_cell q.b0 rfl,block_cell q.b0 rfl,block_cell q.b1 rfl,block_cell q.b1 rfl,block_cell r.b1 rfl⟩
   have HDV : Hid (Below X2.heap.size X2 X2.drew) := (Below.refl _ _).drew
   go_cut [14,15] from 16 (fun s14 s15 wx=>∃ g h,s14=.pointer (some ⟨g,0,none⟩)/\s15=.pointer (some ⟨h,0,none⟩)/\PqAt X2 wx c1 c2 g h)
   case first=>
    apply cut_one
    case h=>
     intro key
     refine rhd HSV HDV.out (fun hHeld=>?_)
     refine tk 0 (h:=?_)
     refine tk 1 (h:=?_)
     refine tk 2 (h:=?_)
     refine tk 3 (h:=?_)
     refine tk 4 (h:=?_)
     refine tk 6 (h:=?_)
     refine tk 7 (h:=?_)
     refine tk 8 (h:=?_)
     refine tk 9 (h:=?_)
     refine tk 10 (h:=?_)
     refine tk 11 (h:=?_)
     try simp only[Act.put]
     have HN:=hidN (Nd.st (z:=(.cells #[.int .i64 0,.int .i64 0,.int .i64 0,.int .i64 0,.bool false] 71)) HDV.out)
     iterate 4
      all_goals
       first
       |(have _q:Nd _ _ _ 0 none none:=HN.out;refine rm3 5 13 14 (fun K hK=>?_) (fun K hK=>?_) (fun K hK=>?_))
       |(have _q:Nd _ _ _ 0 none (some _):=HN.out;refine rm2 5 13 (fun K hK=>?_) (fun K hK=>?_))
       |(have _q:Nd _ _ _ 0 (some _) none:=HN.out;refine rm2 5 14 (fun K hK=>?_) (fun K hK=>?_))
       |(have _q:Nd _ _ _ 0 (some _) (some _):=HN.out;refine rm1 5 (fun K hK=>?_))
       |(have _q:Nd _ _ _ 1 none none:=HN.out;refine rm3 12 13 14 (fun K hK=>?_) (fun K hK=>?_) (fun K hK=>?_))
       |(have _q:Nd _ _ _ 1 none (some _):=HN.out;refine rm2 12 13 (fun K hK=>?_) (fun K hK=>?_))
       |(have _q:Nd _ _ _ 1 (some _) none:=HN.out;refine rm2 12 14 (fun K hK=>?_) (fun K hK=>?_))
       |(have _q:Nd _ _ _ 1 (some _) (some _):=HN.out;refine rm1 12 (fun K hK=>?_))
       |(have _q:Nd _ _ _ 2 none none:=HN.out;refine rm2 13 14 (fun K hK=>?_) (fun K hK=>?_))
       |(have _q:Nd _ _ _ 2 none (some _):=HN.out;refine rm1 13 (fun K hK=>?_))
       |(have _q:Nd _ _ _ 2 (some _) none:=HN.out;refine rm1 14 (fun K hK=>?_))
      all_goals
       first
       |(refine mk_ 5 ?_;go_simp;go_wp2_with (go_at_call 105;refine(HX1.out _).mono ?_;rintro e9 wA ⟨rfl,hbA⟩);have HN:=hidN (HN.out.on hbA);clear hbA;refine hK.out _ _ (HSV.out _ HN.out.2.1) (fun hHeld=>?_))
       |(refine mk_ 12 ?_;go_simp;go_wp2_with (go_at_call 105;refine(HX2.out _).mono ?_;rintro e9 wA ⟨rfl,hbA⟩);have HN:=hidN (HN.out.on hbA);clear hbA;refine hK.out _ _ (HSV.out _ HN.out.2.1) (fun hHeld=>?_))
       |(refine mk_ 13 ?_;have HN:=hidN HN.out.al0;go_simp;refine hK.out _ _ (HSV.out _ HN.out.2.1) (fun hHeld=>?_))
       |(refine mk_ 14 ?_;have HN:=hidN HN.out.al1;go_simp;refine hK.out _ _ (HSV.out _ HN.out.2.1) (fun hHeld=>?_))
       clear hK K
       try simp only[Act.put]
     all_goals refine wpAnyH_like (l':=#[true,true,true,true,true,true,true,true,true,true,true,true,true,true,true,false,false]) (by kernel_rfl) ?_
     · have HFN:Hid (PqAt X2 ((wA.alloc (.cells #[.int .i64 0,.int .i64 0,.int .i64 0,.int .i64 0,.bool false] 71)).alloc (.cells #[.int .i64 0,.int .i64 0,.int .i64 0,.int .i64 0,.bool false] 71)) ⟨0,0,0,0,false⟩ ⟨0,0,0,0,false⟩ (wA.heap.size) (wA.heap.size+1)):=PqAt.of (Nd.fin HN.out (by first|rfl|simp) (by simp) (by simp))
       clear hHeld
       revert HFN
       generalize (wA.alloc (.cells #[.int .i64 0,.int .i64 0,.int .i64 0,.int .i64 0,.bool false] 71)).alloc (.cells #[.int .i64 0,.int .i64 0,.int .i64 0,.int .i64 0,.bool false] 71)=Wz
       generalize wA.heap.size+1=gB
       generalize wA.heap.size=gA
       revert Wz gB gA
       exact key.out
     all_goals(refine key.out _ _ _ ?_;exact PqAt.of (Nd.fin HN.out (by first|rfl|simp) (by simp) (by simp)))
    intro Wz g15 g14 HZ
    have hHeld:=HSV.out _ HZ.out.bel
    have r0:=block_cell (i:=0) HZ.out.b0 rfl
    have z0:=block_frozen (i:=0) HZ.out.b0
    have r1:=block_cell (i:=1) HZ.out.b0 rfl
    have z1:=block_frozen (i:=1) HZ.out.b0
    have r2:=block_cell (i:=2) HZ.out.b0 rfl
    have z2:=block_frozen (i:=2) HZ.out.b0
    have r3:=block_cell (i:=3) HZ.out.b0 rfl
    have z3:=block_frozen (i:=3) HZ.out.b0
    have r4:=block_cell (i:=4) HZ.out.b0 rfl
    have z4:=block_frozen (i:=4) HZ.out.b0
    have lg:g14<Wz.heap.size:=(Array.getElem?_eq_some_iff.1 HZ.out.b0).1
    obtain⟨Z1,hZ1⟩:∃ Z1,(((((Wz.setCell ⟨g14,0,none⟩ (.int .i64 c1.a)).setCell ⟨g14,1,none⟩ (.int .i64 c1.b)).setCell ⟨g14,2,none⟩ (.int .i64 c1.c)).setCell ⟨g14,3,none⟩ (.int .i64 c1.d)).setCell ⟨g14,4,none⟩ (.bool c1.plus))=Z1:=⟨_,rfl⟩
    have HZ1:=hid_of hZ1
    have HP1:=hid_of (HZ.out.set0 c1)
    rw[hZ1]at HP1
    clear hZ1
    refine rd1 15 (fun K hK=>?_)
    go_simp
    rw[HZ1.out]
    refine hK.out _ _ (HSV.out _ HP1.out.bel) (fun hHeld=>?_)
    clear hK K
    clear r0 r1 r2 r3 r4 z0 z1 z2 z3 z4 lg
    try simp only[Act.put]
    have r0:=block_cell (i:=0) HP1.out.b1 rfl
    have z0:=block_frozen (i:=0) HP1.out.b1
    have r1:=block_cell (i:=1) HP1.out.b1 rfl
    have z1:=block_frozen (i:=1) HP1.out.b1
    have r2:=block_cell (i:=2) HP1.out.b1 rfl
    have z2:=block_frozen (i:=2) HP1.out.b1
    have r3:=block_cell (i:=3) HP1.out.b1 rfl
    have z3:=block_frozen (i:=3) HP1.out.b1
    have r4:=block_cell (i:=4) HP1.out.b1 rfl
    have z4:=block_frozen (i:=4) HP1.out.b1
    have lg:g15<Z1.heap.size:=(Array.getElem?_eq_some_iff.1 HP1.out.b1).1
    obtain⟨Z2,hZ2⟩:∃ Z2,(((((Z1.setCell ⟨g15,0,none⟩ (.int .i64 c2.a)).setCell ⟨g15,1,none⟩ (.int .i64 c2.b)).setCell ⟨g15,2,none⟩ (.int .i64 c2.c)).setCell ⟨g15,3,none⟩ (.int .i64 c2.d)).setCell ⟨g15,4,none⟩ (.bool c2.plus))=Z2:=⟨_,rfl⟩
    have HZ2:=hid_of hZ2
    have HP2:=hid_of (HP1.out.set1 c2)
    rw[hZ2]at HP2
    clear hZ2
    refine rd1 16 (fun K hK=>?_)
    go_simp
    rw[HZ2.out]
    refine hK.out _ _ (HSV.out _ HP2.out.bel) (fun hHeld=>?_)
    clear hK K
    clear r0 r1 r2 r3 r4 z0 z1 z2 z3 z4 lg
    try simp only[Act.put]
    refine wpAnyH_done (by kernel_rfl) ?_ _
    clear hHeld
    go_wp2
    go_meet
    exact⟨g14,g15,rfl,rfl,HP2.out⟩
   case rest=>
    rename World=>X3
    obtain⟨g14,g15,rfl,rfl,hpq⟩:=hcut
    have HPQ:=hid_of hpq
    clear hpq
    have HU3:=hid_of (HU2.out.on HPQ.out.bel)
    have HB63:=hidB (HA2.out.bel.trans (HPQ.out.bel.mono HA2.out.bel.size))
    have HD3:=hid_of (HD.out.on HB63.out)
    have HM3:=hid_of (HMP.out.kept (grown_below HB63.out none) (by simp))
    have HX2B:=hid_of HU2.out.b2
    clear HSV HDV HX1 HX2 HA2 HT2 HU2 HB63 HD HMP k1
    have HSV:Hid (∀ W,Below X3.heap.size X3 W->(fun W:World=>W.cell? ⟨w.heap.size,0,none⟩=some (.slice a C.length cap)/\W.cell? ⟨w.heap.size,1,none⟩=some (.int .i64 loops)/\W.cell? ⟨w.heap.size,2,none⟩=some (.slice (some ⟨gF,0,none⟩) (2*C.length+1) cF)/\W.cell? ⟨w.heap.size,3,none⟩=some (.slice (some ⟨gT,0,none⟩) (2*C.length+1) cT)/\W.cell? ⟨g14,0,none⟩=some (.int .i64 c1.a)/\W.cell? ⟨g14,1,none⟩=some (.int .i64 c1.b)/\W.cell? ⟨g14,2,none⟩=some (.int .i64 c1.c)/\W.cell? ⟨g14,3,none⟩=some (.int .i64 c1.d)/\W.cell? ⟨g14,4,none⟩=some (.bool c1.plus)/\W.cell? ⟨g15,0,none⟩=some (.int .i64 c2.a)/\W.cell? ⟨g15,1,none⟩=some (.int .i64 c2.b)/\W.cell? ⟨g15,2,none⟩=some (.int .i64 c2.c)/\W.cell? ⟨g15,3,none⟩=some (.int .i64 c2.d)/\W.cell? ⟨g15,4,none⟩=some (.bool c2.plus)) W):=fun W hW=>by
     have k0:=(HU3.out.on hW).b0
     have p:=HPQ.out.on hW
     exact⟨block_cell k0 rfl,block_cell k0 rfl,block_cell k0 rfl,block_cell k0 rfl,block_cell p.b0 rfl,block_cell p.b0 rfl,block_cell p.b0 rfl,block_cell p.b0 rfl,block_cell p.b0 rfl,block_cell p.b1 rfl,block_cell p.b1 rfl,block_cell p.b1 rfl,block_cell p.b1 rfl,block_cell p.b1 rfl⟩
    have HRL:=hid_of (fun(W:World) (hW:Below X3.heap.size X3 W)=>HRA.out W gF cF gT cT _ _ _ (HD3.out.on hW) (HM3.out.kept (grown_below hW none) (by simp)))
    have HDV : Hid (Below X3.heap.size X3 X3.drew) := (Below.refl _ _).drew
    have HRV:=hid_of HU3.out.b2
    have lz:w.heap.size+1+1<X3.heap.size:=(Array.getElem?_eq_some_iff.1 HU3.out.b2).1
    have HBW:=hid_of HU3.out.bel
    obtain⟨i0,hi,hz0,hz1,hz2⟩:=info_parts infoCross
    go_upto_region 15 with(fail)
    refine rhd HSV HDV.out (fun hHeld=>?_)
    refine tk 0 (h:=?_)
    refine tk 1 (h:=?_)
    refine tk 3 (h:=?_)
    refine tk 4 (h:=?_)
    refine tk 7 (h:=?_)
    refine tk 8 (h:=?_)
    refine tk 9 (h:=?_)
    refine tk 10 (h:=?_)
    try simp only[Act.put]
    refine rd2 2 5 (fun K hK=>?_) (fun K hK=>?_)
    · go_simp
      go_wp2_with (go_at_call 106;refine(HRL.out _ HDV.out).mono ?_;rintro e9 wA ⟨a9,c9,rfl,hoA,hbA⟩)
      have HA:=hidB ((HDV.out).trans (hbA.mono (by simp)))
      have HO:=hid_of (own_low (B':=X3.heap.size) hoA (by simp))
      refine hK.out _ _ (HSV.out _ HA.out) (fun hHeld=>?_)
      clear hK K
      try simp only[Act.put]
      refine rd1 5 (fun K hK=>?_)
      have HX:Hid (Below X3.heap.size X3 (wA.alloc (.cells #[.int .i64 c1.a,.int .i64 c1.b,.int .i64 c1.c,.int .i64 c1.d,.bool c1.plus,.int .i64 c2.a,.int .i64 c2.b,.int .i64 c2.c,.int .i64 c2.d,.bool c2.plus] 71))):=HA.out.alloc HA.out.size _
      go_simp
      refine hK.out _ _ (HSV.out _ HX.out) (fun hHeld=>?_)
      clear hK K
      try simp only[Act.put]
      refine rd1 6 (fun K hK=>?_)
      refine step_append_own rfl (.tmp 133) (.tmp 136) 22 rfl X3.heap.size 71 i0 (.agg #[.int .i64 0,.int .i64 0,.int .i64 0,.int .i64 0,.bool false]) 5 40 Try.underlying22 hi hz0 hz1 hz2 rfl (by decide) _ C.length _ (by simp[Act.eval]) (HO.out.alloc _) ⟨wA.heap.size,0,none⟩ 2 2 [.int .i64 c1.a,.int .i64 c1.b,.int .i64 c1.c,.int .i64 c1.d,.bool c1.plus,.int .i64 c2.a,.int .i64 c2.b,.int .i64 c2.c,.int .i64 c2.d,.bool c2.plus] (by simp[Act.eval]) rfl (block_cells (alloc_at rfl)) (cells_one [c1,c2]) (by unfold maxLen;omega) (by omega) (by have:=HA.out.size;simp<;>omega) ?_
      intro v8 w8 hown8 hg8
      have H8:=hidB ((HX.out.grown hg8 HX.out.size (fun q hq=>(HO.out.lt q hq).1)))
      obtain⟨a8,c8,rfl⟩:=own_capS hown8
      have HO8:=hid_of hown8
      refine hK.out _ _ (HSV.out _ H8.out) (fun hHeld=>?_)
      clear hK K hown8 hg8
      refine tk 11 (h:=?_)
      try simp only[Act.put]
      have q2:=(H8.out.block _ lz).trans HRV.out
      have hs8:=H8.out.size
      have r0:=block_cell (i:=0) q2 rfl
      have r1:=block_cell (i:=1) q2 rfl
      have z0:=block_frozen (i:=0) q2
      have z1:=block_frozen (i:=1) q2
      have l2:w.heap.size+1+1<w8.heap.size:=by omega
      obtain⟨Z,hZ⟩:∃ Z,Z=(w8.setCell ⟨w.heap.size+1+1,0,none⟩ (.slice a8 (C.length+2) c8)).setCell ⟨w.heap.size+1+1,1,none⟩ (.int .i64 loops):=⟨_,rfl⟩
      have HZE:=hid_of hZ
      have hgZ:w8.grownBy Z (some (w.heap.size+1+1)):=by rw[hZ];exact grown_trans (set_grown _ _ _ _) (set_grown _ _ _ _)
      have hZ2:Z.heap[w.heap.size+1+1]?=some (.cells #[.slice a8 (C.length+2) c8,.int .i64 loops] 24 (0,0)):=by rw[hZ,set_block (set_block q2)];rfl
      have HZB:Hid (Below w.heap.size w Z):=(HBW.out.trans (H8.out.mono HBW.out.size)).grown hgZ (Nat.le_trans HBW.out.size hs8) (fun q hq=>by have:=Option.some.inj hq;omega)
      have HSZ:Hid ((fun W:World=>W.cell? ⟨w.heap.size,0,none⟩=some (.slice a C.length cap)/\W.cell? ⟨w.heap.size,1,none⟩=some (.int .i64 loops)/\W.cell? ⟨w.heap.size,2,none⟩=some (.slice (some ⟨gF,0,none⟩) (2*C.length+1) cF)/\W.cell? ⟨w.heap.size,3,none⟩=some (.slice (some ⟨gT,0,none⟩) (2*C.length+1) cT)/\W.cell? ⟨g14,0,none⟩=some (.int .i64 c1.a)/\W.cell? ⟨g14,1,none⟩=some (.int .i64 c1.b)/\W.cell? ⟨g14,2,none⟩=some (.int .i64 c1.c)/\W.cell? ⟨g14,3,none⟩=some (.int .i64 c1.d)/\W.cell? ⟨g14,4,none⟩=some (.bool c1.plus)/\W.cell? ⟨g15,0,none⟩=some (.int .i64 c2.a)/\W.cell? ⟨g15,1,none⟩=some (.int .i64 c2.b)/\W.cell? ⟨g15,2,none⟩=some (.int .i64 c2.c)/\W.cell? ⟨g15,3,none⟩=some (.int .i64 c2.d)/\W.cell? ⟨g15,4,none⟩=some (.bool c2.plus)) Z):=(by
       have hU8:=HU3.out.on H8.out
       have hP8:=HPQ.out.on H8.out
       have lw:=(Array.getElem?_eq_some_iff.1 hU8.b0).1
       have lg:=(Array.getElem?_eq_some_iff.1 hP8.b0).1
       have lh:=(Array.getElem?_eq_some_iff.1 hP8.b1).1
       have a0:=HPQ.out.l0
       have a1:=HPQ.out.l1
       have lX:=(Array.getElem?_eq_some_iff.1 HX2B.out).1
       have k0:=(hgZ.block w.heap.size lw (fun e=>by have:=Option.some.inj e;omega)).trans hU8.b0
       have k1:=(hgZ.block g14 lg (fun e=>by have:=Option.some.inj e;omega)).trans hP8.b0
       have k2:=(hgZ.block g15 lh (fun e=>by have:=Option.some.inj e;omega)).trans hP8.b1
       exact⟨block_cell k0 rfl,block_cell k0 rfl,block_cell k0 rfl,block_cell k0 rfl,block_cell k1 rfl,block_cell k1 rfl,block_cell k1 rfl,block_cell k1 rfl,block_cell k1 rfl,block_cell k2 rfl,block_cell k2 rfl,block_cell k2 rfl,block_cell k2 rfl,block_cell k2 rfl⟩)
      have HOZ:=hid_of (HO8.out.kept hgZ (by
       cases hv:(Value.slice a8 (C.length+2) c8).ownBlock with
       |none=>exact Or.inl rfl
       |some k=>exact Or.inr (fun e=>by have h1:=(HO8.out.lt k hv).1;have h2:=Option.some.inj e;omega)))
      clear hZ hgZ q2
      refine rd1 12 (fun K hK=>?_)
      go_simp
      rw[<-HZE.out]
      refine hK.out _ _ HSZ.out (fun hHeld=>?_)
      clear hK K
      try simp only[Act.put]
      refine wpAnyH_done (by kernel_rfl) ?_ _
      clear hHeld
      go_wp2
      have x0:=block_cell (i:=0) (v:=.slice a8 (C.length+2) c8) hZ2 rfl
      have x1:=block_cell (i:=1) (v:=.int .i64 loops) hZ2 rfl
      refine bodyPost_ret (v:=.agg #[.slice a8 (C.length+2) c8,.int .i64 loops]) (by simp[results,Try.results90,go_sem,x0,x1]) rfl (HPP.out a8 c8 Z ?_ HZB.out)
      have e:∀ L:List Cr,crossCells (L++[c1,c2])=crossCells L++[.int .i64 c1.a,.int .i64 c1.b,.int .i64 c1.c,.int .i64 c1.d,.bool c1.plus,.int .i64 c2.a,.int .i64 c2.b,.int .i64 c2.c,.int .i64 c2.d,.bool c2.plus]:=fun L=>by simp[crossCells]
      rw[e]
      exact own_low HOZ.out HBW.out.size
    · have HX0:Hid (Below X3.heap.size X3 (X3.drew.alloc (.cells #[.int .i64 c1.a,.int .i64 c1.b,.int .i64 c1.c,.int .i64 c1.d,.bool c1.plus,.int .i64 c2.a,.int .i64 c2.b,.int .i64 c2.c,.int .i64 c2.d,.bool c2.plus] 71))):=HDV.out.alloc (Nat.le_refl _) _
      have HNW:=hidB ((alloc_at rfl:(X3.drew.alloc (.cells #[.int .i64 c1.a,.int .i64 c1.b,.int .i64 c1.c,.int .i64 c1.d,.bool c1.plus,.int .i64 c2.a,.int .i64 c2.b,.int .i64 c2.c,.int .i64 c2.d,.bool c2.plus] 71)).heap[X3.drew.heap.size]?=some (.cells #[.int .i64 c1.a,.int .i64 c1.b,.int .i64 c1.c,.int .i64 c1.d,.bool c1.plus,.int .i64 c2.a,.int .i64 c2.b,.int .i64 c2.c,.int .i64 c2.d,.bool c2.plus] 71 (0,0))))
      go_simp
      refine hK.out _ _ (HSV.out _ HX0.out) (fun hHeld=>?_)
      clear hK K
      try simp only[Act.put]
      refine rd1 2 (fun K hK=>?_)
      go_simp
      go_wp2_with (go_at_call 106;refine(HRL.out _ HX0.out).mono ?_;rintro e9 wA ⟨a9,c9,rfl,hoA,hbA⟩)
      have HA:=hidB ((HX0.out).trans (hbA.mono (by simp)))
      have HO:=hid_of (own_low (B':=X3.heap.size) hoA (by simp))
      have HX:=hidB HA.out
      have HN9:=hid_of ((hbA.block _ (by simp)).trans HNW.out)
      refine hK.out _ _ (HSV.out _ HA.out) (fun hHeld=>?_)
      clear hK K
      try simp only[Act.put]
      refine rd1 6 (fun K hK=>?_)
      refine step_append_own rfl (.tmp 133) (.tmp 136) 22 rfl X3.heap.size 71 i0 (.agg #[.int .i64 0,.int .i64 0,.int .i64 0,.int .i64 0,.bool false]) 5 40 Try.underlying22 hi hz0 hz1 hz2 rfl (by decide) _ C.length _ (by simp[Act.eval]) HO.out ⟨X3.heap.size,0,none⟩ 2 2 [.int .i64 c1.a,.int .i64 c1.b,.int .i64 c1.c,.int .i64 c1.d,.bool c1.plus,.int .i64 c2.a,.int .i64 c2.b,.int .i64 c2.c,.int .i64 c2.d,.bool c2.plus] (by simp[Act.eval]) rfl (block_cells HN9.out) (cells_one [c1,c2]) (by unfold maxLen;omega) (by omega) (by have:=HA.out.size;simp<;>omega) ?_
      intro v8 w8 hown8 hg8
      have H8:=hidB ((HX.out.grown hg8 HX.out.size (fun q hq=>(HO.out.lt q hq).1)))
      obtain⟨a8,c8,rfl⟩:=own_capS hown8
      have HO8:=hid_of hown8
      refine hK.out _ _ (HSV.out _ H8.out) (fun hHeld=>?_)
      clear hK K hown8 hg8
      refine tk 11 (h:=?_)
      try simp only[Act.put]
      have q2:=(H8.out.block _ lz).trans HRV.out
      have hs8:=H8.out.size
      have r0:=block_cell (i:=0) q2 rfl
      have r1:=block_cell (i:=1) q2 rfl
      have z0:=block_frozen (i:=0) q2
      have z1:=block_frozen (i:=1) q2
      have l2:w.heap.size+1+1<w8.heap.size:=by omega
      obtain⟨Z,hZ⟩:∃ Z,Z=(w8.setCell ⟨w.heap.size+1+1,0,none⟩ (.slice a8 (C.length+2) c8)).setCell ⟨w.heap.size+1+1,1,none⟩ (.int .i64 loops):=⟨_,rfl⟩
      have HZE:=hid_of hZ
      have hgZ:w8.grownBy Z (some (w.heap.size+1+1)):=by rw[hZ];exact grown_trans (set_grown _ _ _ _) (set_grown _ _ _ _)
      have hZ2:Z.heap[w.heap.size+1+1]?=some (.cells #[.slice a8 (C.length+2) c8,.int .i64 loops] 24 (0,0)):=by rw[hZ,set_block (set_block q2)];rfl
      have HZB:Hid (Below w.heap.size w Z):=(HBW.out.trans (H8.out.mono HBW.out.size)).grown hgZ (Nat.le_trans HBW.out.size hs8) (fun q hq=>by have:=Option.some.inj hq;omega)
      have HSZ:Hid ((fun W:World=>W.cell? ⟨w.heap.size,0,none⟩=some (.slice a C.length cap)/\W.cell? ⟨w.heap.size,1,none⟩=some (.int .i64 loops)/\W.cell? ⟨w.heap.size,2,none⟩=some (.slice (some ⟨gF,0,none⟩) (2*C.length+1) cF)/\W.cell? ⟨w.heap.size,3,none⟩=some (.slice (some ⟨gT,0,none⟩) (2*C.length+1) cT)/\W.cell? ⟨g14,0,none⟩=some (.int .i64 c1.a)/\W.cell? ⟨g14,1,none⟩=some (.int .i64 c1.b)/\W.cell? ⟨g14,2,none⟩=some (.int .i64 c1.c)/\W.cell? ⟨g14,3,none⟩=some (.int .i64 c1.d)/\W.cell? ⟨g14,4,none⟩=some (.bool c1.plus)/\W.cell? ⟨g15,0,none⟩=some (.int .i64 c2.a)/\W.cell? ⟨g15,1,none⟩=some (.int .i64 c2.b)/\W.cell? ⟨g15,2,none⟩=some (.int .i64 c2.c)/\W.cell? ⟨g15,3,none⟩=some (.int .i64 c2.d)/\W.cell? ⟨g15,4,none⟩=some (.bool c2.plus)) Z):=(by
       have hU8:=HU3.out.on H8.out
       have hP8:=HPQ.out.on H8.out
       have lw:=(Array.getElem?_eq_some_iff.1 hU8.b0).1
       have lg:=(Array.getElem?_eq_some_iff.1 hP8.b0).1
       have lh:=(Array.getElem?_eq_some_iff.1 hP8.b1).1
       have a0:=HPQ.out.l0
       have a1:=HPQ.out.l1
       have lX:=(Array.getElem?_eq_some_iff.1 HX2B.out).1
       have k0:=(hgZ.block w.heap.size lw (fun e=>by have:=Option.some.inj e;omega)).trans hU8.b0
       have k1:=(hgZ.block g14 lg (fun e=>by have:=Option.some.inj e;omega)).trans hP8.b0
       have k2:=(hgZ.block g15 lh (fun e=>by have:=Option.some.inj e;omega)).trans hP8.b1
       exact⟨block_cell k0 rfl,block_cell k0 rfl,block_cell k0 rfl,block_cell k0 rfl,block_cell k1 rfl,block_cell k1 rfl,block_cell k1 rfl,block_cell k1 rfl,block_cell k1 rfl,block_cell k2 rfl,block_cell k2 rfl,block_cell k2 rfl,block_cell k2 rfl,block_cell k2 rfl⟩)
      have HOZ:=hid_of (HO8.out.kept hgZ (by
       cases hv:(Value.slice a8 (C.length+2) c8).ownBlock with
       |none=>exact Or.inl rfl
       |some k=>exact Or.inr (fun e=>by have h1:=(HO8.out.lt k hv).1;have h2:=Option.some.inj e;omega)))
      clear hZ hgZ q2
      refine rd1 12 (fun K hK=>?_)
      go_simp
      rw[<-HZE.out]
      refine hK.out _ _ HSZ.out (fun hHeld=>?_)
      clear hK K
      try simp only[Act.put]
      refine wpAnyH_done (by kernel_rfl) ?_ _
      clear hHeld
      go_wp2
      have x0:=block_cell (i:=0) (v:=.slice a8 (C.length+2) c8) hZ2 rfl
      have x1:=block_cell (i:=1) (v:=.int .i64 loops) hZ2 rfl
      refine bodyPost_ret (v:=.agg #[.slice a8 (C.length+2) c8,.int .i64 loops]) (by simp[results,Try.results90,go_sem,x0,x1]) rfl (HPP.out a8 c8 Z ?_ HZB.out)
      have e:∀ L:List Cr,crossCells (L++[c1,c2])=crossCells L++[.int .i64 c1.a,.int .i64 c1.b,.int .i64 c1.c,.int .i64 c1.d,.bool c1.plus,.int .i64 c2.a,.int .i64 c2.b,.int .i64 c2.c,.int .i64 c2.d,.bool c2.plus]:=fun L=>by simp[crossCells]
      rw[e]
      exact own_low HOZ.out HBW.out.size
end Go.Proofs.Ytagaajlbkfkaiaa
/- Moves: the walk of bench.layered. Made by genmvl.py. -/
namespace Go.Proofs.Ytagaajlbkfkaiaa
open Go.RowKit
set_option maxHeartbeats 8000000
set_option maxRecDepth 100000
def hiB (C:List Cr) (x:Nat) (p:Bool):Bool:=decide (enS C x p%2=1)
def topB (C:List Cr) (l:List Nat):Bool:=l.any fun j=>hiB C (dA j) false&&hiB C (dA j) true
def botB (C:List Cr) (l:List Nat):Bool:=l.any fun j=>!hiB C (dA j) false&&!hiB C (dA j) true
theorem top_next (C:List Cr) (l:List Nat) (i:Nat) (h:i<l.length):topB C (l.take (i+1))=(topB C (l.take i)||(hiB C (dA (l.getD i 0)) false&&hiB C (dA (l.getD i 0)) true)):=by
 have e:l.take (i+1)=l.take i++[l.getD i 0]:=by
  rw[List.take_add_one,List.getD_eq_getElem?_getD,List.getElem?_eq_getElem h]
  rfl
 rw[e]
 unfold topB
 rw[List.any_append]
 simp
theorem bot_next (C:List Cr) (l:List Nat) (i:Nat) (h:i<l.length):botB C (l.take (i+1))=(botB C (l.take i)||(!hiB C (dA (l.getD i 0)) false&&!hiB C (dA (l.getD i 0)) true)):=by
 have e:l.take (i+1)=l.take i++[l.getD i 0]:=by
  rw[List.take_add_one,List.getD_eq_getElem?_getD,List.getElem?_eq_getElem h]
  rfl
 rw[e]
 unfold botB
 rw[List.any_append]
 simp
theorem layered_any (a:Option Addr) (cap:Nat) (C:List Cr) (loops:Int) (gF cF gT cT:Nat) (g n c:Nat) (l:List Nat) (w:World) (hm:mayD C loops=true) (hd:Dr w a cap C gF gT) (hg:g<w.heap.size) (hn:l.length=n) (hn9:n<=1000)
    (hj:∀ k,k<n->1<=l.getD k 0/\l.getD k 0<=4*C.length)
    (hc:∀ k,k<n->w.cell? ⟨g,k*2,none⟩=some (.int .i64 (dA (l.getD k 0):Nat))/\w.cell? ⟨g,k*2+1,none⟩=some (.bool (dB (l.getD k 0)))):
    Calls Try.prog 114 #[drV a cap C loops gF cF gT cT,.slice (some ⟨g,0,none⟩) n c] w fun e w'=>e=.returned (.bool (topB C l&&botB C l))/\Below w.heap.size w w':=by
 unfold drV
 have HD:=hid_of hd
 have HM:=hid_of hm
 have HJ:=hid_of hj
 have HCC:=hid_of hc
 have HN:=hid_of hn
 have hl16:=may_len hm
 have HSP:=hid_of (fun(i:Int) (s:Nat) (W:World) (hs:s<4)=>spotAbove_any i s W hs)
 obtain⟨V,hV⟩:∃ V,V=w.alloc (.cells #[.slice a C.length cap,.int .i64 loops,.slice (some ⟨gF,0,none⟩) (2*C.length+1) cF,.slice (some ⟨gT,0,none⟩) (2*C.length+1) cT] 63):=⟨_,rfl⟩
 have HV:=hid_of hV
 have HBV:Hid (Below w.heap.size w V):=(by rw[hV];exact(Below.refl _ _).alloc (Nat.le_refl _) _)
 have HT0:Hid (V.heap[w.heap.size]?=some (.cells #[.slice a C.length cap,.int .i64 loops,.slice (some ⟨gF,0,none⟩) (2*C.length+1) cF,.slice (some ⟨gT,0,none⟩) (2*C.length+1) cT] 63 (0,0))):=(by rw[hV];exact alloc_at rfl)
 have hsV:V.heap.size=w.heap.size+1:=by rw[hV];simp
 clear hV hd hm hj hc hn
 go_enter Try.func114,Try.ntmps114
 go_wp2
 rw[<-HV.out]
 go_loopw [5,6,13] (fun v5 v6 v13 wr=>∃ (i:Nat) (t b:Bool),i<=n/\v13=.int .i64 (i:Nat)/\v5=.bool t/\v6=.bool b/\Hid (topB C (l.take i)=t)/\Hid (botB C (l.take i)=b)/\Hid (Below V.heap.size V wr)) (fun _ _ v13 _=>n-(intOf v13).toNat)
 case atStart=>exact⟨0,false,false,Nat.zero_le _,rfl,rfl,rfl,rfl,rfl,Below.refl _ _⟩
 case round=>
  rename World=>W1
  obtain⟨i,t,b,hi,rfl,rfl,rfl,ht,hb,hB⟩:=hrel
  have hsW:=hB.out.size
  have HBW:=hid_of hB.out
  have HT:=hid_of ht.out
  have HBo:=hid_of hb.out
  clear ht hb hB
  by_cases hil:i<n
  · have hii:(i:Int)<(n:Int):=by omega
    obtain⟨j,hj⟩:∃ j,l.getD i 0=j:=⟨_,rfl⟩
    have hr:=HJ.out i hil
    have hcc:=HCC.out i hil
    have HTN:=hid_of (top_next C l i (by rw[HN.out];exact hil))
    have HBN:=hid_of (bot_next C l i (by rw[HN.out];exact hil))
    rw[hj]at hr hcc HTN HBN
    rw[HT.out]at HTN
    rw[HBo.out]at HBN
    have hBA:Below w.heap.size w W1:=HBV.out.trans (HBW.out.mono (by omega))
    have c0:W1.cell? ⟨g,i*2,none⟩=some (.int .i64 (dA j:Nat)):=bcell hBA hg hcc.1
    have c1:W1.cell? ⟨g,i*2+1,none⟩=some (.bool (dB j)):=bcell hBA hg hcc.2
    have hgW:g<W1.heap.size:=by omega
    obtain⟨x,hx⟩:∃ x,dA j=x:=⟨_,rfl⟩
    have hxr:=dA_le hr.1 hr.2
    have hDr:=HD.out.on hBA
    have hen:=hDr.endAt HM.out x (by omega) (by omega)
    have hes0:=(en_may HM.out x false (by omega) (by omega)).2.2.1
    have hes1:=(en_may HM.out x true (by omega) (by omega)).2.2.1
    obtain⟨p0,hp0⟩:∃ p,hiB C x false=p:=⟨_,rfl⟩
    obtain⟨p1,hp1⟩:∃ p,hiB C x true=p:=⟨_,rfl⟩
    rw[hx]at c0 HTN HBN
    rw[hp0,hp1]at HTN HBN
    unfold hiB at hp0 hp1
    obtain⟨cf,ef⟩:∃ q,enC C x false=q:=⟨_,rfl⟩
    obtain⟨sf,fs⟩:∃ q,enS C x false=q:=⟨_,rfl⟩
    obtain⟨ct,et⟩:∃ q,enC C x true=q:=⟨_,rfl⟩
    obtain⟨st,ts⟩:∃ q,enS C x true=q:=⟨_,rfl⟩
    rw[ef,fs,et,ts]at hen
    rw[fs]at hp0 hes0
    rw[ts]at hp1 hes1
    have HA0:=hid_of (fun W=>HSP.out (cf:Int) sf W hes0)
    have HA1:=hid_of (fun W=>HSP.out (ct:Int) st W hes1)
    rw[hp0]at HA0
    rw[hp1]at HA1
    have HEN:=hid_of hen
    have hltT:=hDr.ltT
    have hltF:=hDr.ltF
    have hxi:((x:Nat):Int)<2*(C.length:Int)+1:=by omega
    have hxn:x<2*C.length+1:=by omega
    have HBA:=hid_of hBA
    obtain⟨Z,hZ⟩:∃ Z,Z=W1.alloc (.cells #[.int .i64 (x:Nat),.bool (dB j)] 26):=⟨_,rfl⟩
    have HZ:=hid_of hZ
    have hsZ:Z.heap.size=W1.heap.size+1:=by rw[hZ];simp
    have HBZ:Hid (Below W1.heap.size W1 Z):=(by rw[hZ];exact(Below.refl _ _).alloc (Nat.le_refl _) _)
    have HQZ:Hid (Z.heap[W1.heap.size]?=some (.cells #[.int .i64 (x:Nat),.bool (dB j)] 26 (0,0))):=(by rw[hZ];exact alloc_at rfl)
    have HSV:Hid (∀ W,Below Z.heap.size Z W->(fun X:World=>X.cell? ⟨w.heap.size,2,none⟩=some (.slice (some ⟨gF,0,none⟩) (2*C.length+1) cF)/\X.cell? ⟨w.heap.size,3,none⟩=some (.slice (some ⟨gT,0,none⟩) (2*C.length+1) cT)/\X.cell? ⟨W1.heap.size,0,none⟩=some (.int .i64 (x:Nat))/\X.cell? ⟨gF,x*2,none⟩=some (.int .i64 (cf:Nat))/\X.cell? ⟨gF,x*2+1,none⟩=some (.int .i64 (sf:Nat))/\X.cell? ⟨gT,x*2,none⟩=some (.int .i64 (ct:Nat))/\X.cell? ⟨gT,x*2+1,none⟩=some (.int .i64 (st:Nat))) W):=fun W hW=>by
     have k0:=(hW.block _ (by omega)).trans ((HBZ.out.block _ (by omega)).trans ((HBW.out.block _ (by omega)).trans HT0.out))
     have k1:=(hW.block _ (by omega)).trans HQZ.out
     have hb:=HBZ.out.trans (hW.mono (by omega))
     obtain⟨q1,q2,q3,q4⟩:=HEN.out
     exact⟨block_cell k0 rfl,block_cell k0 rfl,block_cell k1 rfl,bcell hb hltF q3,bcell hb hltF q4,bcell hb hltT q1,bcell hb hltT q2⟩
    have HDZ:Hid (Below Z.heap.size Z Z.drew):=(Below.refl _ _).drew
    have HBZV:=hidB (HBW.out.trans (HBZ.out.mono (by omega)))
    clear hZ hj hx hr hcc hxr hDr hen hes0 hes1 hp0 hp1 ef fs et ts hBA
    go_wp2
    rw[<-HZ.out]
    refine rhd HSV HDZ.out (fun hHeld=>?_)
    refine tk 0 (h:=?_)
    refine tk 1 (h:=?_)
    refine tk 2 (h:=?_)
    refine tk 3 (h:=?_)
    refine tk 4 (h:=?_)
    refine tk 5 (h:=?_)
    refine tk 6 (h:=?_)
    refine tk 8 (h:=?_)
    refine tk 9 (h:=?_)
    refine tk 10 (h:=?_)
    refine tk 11 (h:=?_)
    refine tk 12 (h:=?_)
    refine tk 13 (h:=?_)
    refine tk 14 (h:=?_)
    try simp only[Act.put]
    refine rd1 7 (fun K hK=>?_)
    go_simp
    go_wp2_with (go_at_call 126;refine(HA0.out _).mono ?_;rintro e9 w3 ⟨rfl,hb3⟩)
    have B3:=hidB (HDZ.out.trans (hb3.mono HDZ.out.size))
    clear hb3
    refine hK.out _ _ (HSV.out _ B3.out) (fun hHeld=>?_)
    clear hK K
    try simp only[Act.put]
    refine rd1 15 (fun K hK=>?_)
    go_simp
    go_wp2_with (go_at_call 126;refine(HA1.out _).mono ?_;rintro e9 w4 ⟨rfl,hb4⟩)
    have B4:=hidB (B3.out.trans (hb4.mono B3.out.size))
    clear hb4
    refine hK.out _ _ (HSV.out _ B4.out) (fun hHeld=>?_)
    clear hK K
    refine tk 16 (h:=?_)
    refine tk 17 (h:=?_)
    try simp only[Act.put]
    refine wpAnyH_done (by kernel_rfl) ?_ _
    clear hHeld HSV HA0 HA1 HSP HEN c0 c1
    have HBF:=hidB (HBZV.out.trans (B4.out.mono (by omega)))
    cases t<;>cases b<;>cases p0<;>cases p1
    all_goals
     go_wp2
     go_roundw
    all_goals first
     |(simp only[intOf];omega)
     |exact⟨i+1,_,_,by omega,by go_num,rfl,rfl,HTN.out,HBN.out,HBF.out⟩
  · obtain rfl:i=n:=by omega
    have e:l.take i=l:=by rw[<-HN.out,List.take_length]
    rw[e]at HT HBo
    have HBX:=hidB (HBV.out.trans (HBW.out.mono (by omega)))
    cases t<;>cases b
    · have HR:=hid_of (show(topB C l&&botB C l)=false by rw[HT.out];rfl)
      go_wp2
      go_ret
      exact⟨ret_bool HR.out,HBX.out⟩
    · have HR:=hid_of (show(topB C l&&botB C l)=false by rw[HT.out];rfl)
      go_wp2
      go_ret
      exact⟨ret_bool HR.out,HBX.out⟩
    · have HR:=hid_of (show(topB C l&&botB C l)=false by rw[HT.out,HBo.out];rfl)
      go_wp2
      go_ret
      exact⟨ret_bool HR.out,HBX.out⟩
    · have HR:=hid_of (show(topB C l&&botB C l)=true by rw[HT.out,HBo.out];rfl)
      go_wp2
      go_ret
      exact⟨ret_bool HR.out,HBX.out⟩
end Go.Proofs.Ytagaajlbkfkaiaa
/- Moves: the walks of bench.hasCross and bench.triangle. Made by genmvp.py. -/
namespace Go.Proofs.Ytagaajlbkfkaiaa
open Go.RowKit
set_option maxHeartbeats 8000000
set_option maxRecDepth 100000
def crB (C:List Cr) (k:Int):Bool:=decide (0<=k)&&decide (k<(C.length:Int))
theorem hasCross_any (a:Option Addr) (cap:Nat) (C:List Cr) (loops:Int) (gF cF gT cT:Nat) (k:Int) (w:World):
    Calls Try.prog 107 #[drV a cap C loops gF cF gT cT,.int .i64 k] w fun e w'=>e=.returned (.bool (crB C k))/\Below w.heap.size w w':=by
 unfold drV
 have hb:∀ o,Below w.heap.size w (w.alloc o):=fun o=>(Below.refl _ _).alloc (Nat.le_refl _) o
 by_cases h0:0<=k
 · have d0:decide (0<=k)=true:=by simpa using h0
   by_cases h1:k<(C.length:Int)
   · have d1:decide (k<(C.length:Int))=true:=by simpa using h1
     have HR:=hid_of (show crB C k=true by simp[crB,h0,h1])
     go_enter Try.func107,Try.ntmps107
     go_wp2
     go_ret
     exact⟨ret_bool HR.out,hb _⟩
   · have d1:decide (k<(C.length:Int))=false:=by simpa using h1
     have HR:=hid_of (show crB C k=false by simp[crB,h1])
     go_enter Try.func107,Try.ntmps107
     go_wp2
     go_ret
     exact⟨ret_bool HR.out,hb _⟩
 · have d0:decide (0<=k)=false:=by simpa using h0
   have HR:=hid_of (show crB C k=false by simp[crB,h0])
   go_enter Try.func107,Try.ntmps107
   go_wp2
   go_ret
   exact⟨ret_bool HR.out,hb _⟩
theorem triangle_no (a:Option Addr) (cap:Nat) (C:List Cr) (loops:Int) (gF cF gT cT:Nat) (ad:Option Addr) (n c:Nat) (w:World) (hn:¬ n=3):
    Calls Try.prog 115 #[drV a cap C loops gF cF gT cT,.slice ad n c] w fun e w'=>e=.returned (.bool false)/\Below w.heap.size w w':=by
 unfold drV
 have hb:∀ o,Below w.heap.size w (w.alloc o):=fun o=>(Below.refl _ _).alloc (Nat.le_refl _) o
 go_enter Try.func115,Try.ntmps115
 go_wp2
 go_ret
 exact⟨rfl,hb _⟩
theorem triangle_yes (a:Option Addr) (cap:Nat) (C:List Cr) (loops:Int) (gF cF gT cT:Nat) (g c x y z:Nat) (w:World) (hm:mayD C loops=true) (hd:Dr w a cap C gF gT) (hg:g<w.heap.size)
    (hx:1<=x/\x<=4*C.length) (hy:1<=y/\y<=4*C.length) (hz:1<=z/\z<=4*C.length)
    (hc:w.cell? ⟨g,0,none⟩=some (.int .i64 (dA x:Nat))/\w.cell? ⟨g,1,none⟩=some (.bool (dB x))/\w.cell? ⟨g,2,none⟩=some (.int .i64 (dA y:Nat))/\w.cell? ⟨g,3,none⟩=some (.bool (dB y))/\w.cell? ⟨g,4,none⟩=some (.int .i64 (dA z:Nat))/\w.cell? ⟨g,5,none⟩=some (.bool (dB z))):
    Calls Try.prog 115 #[drV a cap C loops gF cF gT cT,.slice (some ⟨g,0,none⟩) 3 c] w fun e w'=>e=.returned (.bool ((!decide (dC C x=dC C y)&&!decide (dC C y=dC C z))&&!decide (dC C z=dC C x)))/\Below w.heap.size w w':=by
 have HEN:=hid_of (fun(j:Nat) (W:World) (h1:1<=j/\j<=4*C.length) (hW:Dr W a cap C gF gT)=>end_any a cap C loops gF cF gT cT (dA j) (dB j) W hm (dA_le h1.1 h1.2).1 (dA_le h1.1 h1.2).2 hW)
 unfold drV at HEN ⊢
 have HD:=hid_of hd
 have HX:=hid_of (And.intro hx (And.intro hy hz))
 have HCC:=hid_of hc
 obtain⟨X,hX⟩:∃ X,X=dC C x:=⟨_,rfl⟩
 obtain⟨Y,hY⟩:∃ Y,Y=dC C y:=⟨_,rfl⟩
 obtain⟨Z,hZ⟩:∃ Z,Z=dC C z:=⟨_,rfl⟩
 have HXX:Hid (enC C (dA x) (!dB x)=X):=hX.symm
 have HYY:Hid (enC C (dA y) (!dB y)=Y):=hY.symm
 have HZZ:Hid (enC C (dA z) (!dB z)=Z):=hZ.symm
 rw[<-hX,<-hY,<-hZ]
 obtain⟨V,hV⟩:∃ V,V=w.alloc (.cells #[.slice a C.length cap,.int .i64 loops,.slice (some ⟨gF,0,none⟩) (2*C.length+1) cF,.slice (some ⟨gT,0,none⟩) (2*C.length+1) cT] 63):=⟨_,rfl⟩
 have HV:=hid_of hV
 have HBV:Hid (Below w.heap.size w V):=(by rw[hV];exact(Below.refl _ _).alloc (Nat.le_refl _) _)
 have HT0:Hid (V.heap[w.heap.size]?=some (.cells #[.slice a C.length cap,.int .i64 loops,.slice (some ⟨gF,0,none⟩) (2*C.length+1) cF,.slice (some ⟨gT,0,none⟩) (2*C.length+1) cT] 63 (0,0))):=(by rw[hV];exact alloc_at rfl)
 have hsV:V.heap.size=w.heap.size+1:=by rw[hV];simp
 have HSV:Hid (∀ W,Below V.heap.size V W->(fun X:World=>X.cell? ⟨w.heap.size,0,none⟩=some (.slice a C.length cap)/\X.cell? ⟨w.heap.size,1,none⟩=some (.int .i64 loops)/\X.cell? ⟨w.heap.size,2,none⟩=some (.slice (some ⟨gF,0,none⟩) (2*C.length+1) cF)/\X.cell? ⟨w.heap.size,3,none⟩=some (.slice (some ⟨gT,0,none⟩) (2*C.length+1) cT)/\X.cell? ⟨g,0,none⟩=some (.int .i64 (dA x:Nat))/\X.cell? ⟨g,1,none⟩=some (.bool (dB x))/\X.cell? ⟨g,2,none⟩=some (.int .i64 (dA y:Nat))/\X.cell? ⟨g,3,none⟩=some (.bool (dB y))/\X.cell? ⟨g,4,none⟩=some (.int .i64 (dA z:Nat))/\X.cell? ⟨g,5,none⟩=some (.bool (dB z))) W):=fun W hW=>by
  have k0:=(hW.block _ (by omega)).trans HT0.out
  have hb:=HBV.out.trans (hW.mono (by omega))
  have hq:=HCC.out
  exact⟨block_cell k0 rfl,block_cell k0 rfl,block_cell k0 rfl,block_cell k0 rfl,bcell hb hg hq.1,bcell hb hg hq.2.1,bcell hb hg hq.2.2.1,bcell hb hg hq.2.2.2.1,bcell hb hg hq.2.2.2.2.1,bcell hb hg hq.2.2.2.2.2⟩
 have HDW:Hid (∀ W,Below V.heap.size V W->Dr W a cap C gF gT):=fun W hW=>HD.out.on (HBV.out.trans (hW.mono (by omega)))
 have HDV:Hid (Below V.heap.size V V.drew):=(Below.refl _ _).drew
 have hfl:∀ (p q:Int) (W:World),(Instr.field 120 (.agg #[.int .i64 p,.int .i64 q]) 0).run Try.prog W=.ok (.int .i64 p) W:=fun p q W=>by kernel_rfl
 clear hV hX hY hZ hc hd hx hy hz hm
 go_enter Try.func115,Try.ntmps115
 go_wp2
 rw[<-HV.out]
 refine wp_region_held_drew (S:=fun X:World=>X.cell? ⟨w.heap.size,0,none⟩=some (.slice a C.length cap)/\X.cell? ⟨w.heap.size,1,none⟩=some (.int .i64 loops)/\X.cell? ⟨w.heap.size,2,none⟩=some (.slice (some ⟨gF,0,none⟩) (2*C.length+1) cF)/\X.cell? ⟨w.heap.size,3,none⟩=some (.slice (some ⟨gT,0,none⟩) (2*C.length+1) cT)/\X.cell? ⟨g,0,none⟩=some (.int .i64 (dA x:Nat))/\X.cell? ⟨g,1,none⟩=some (.bool (dB x))/\X.cell? ⟨g,2,none⟩=some (.int .i64 (dA y:Nat))/\X.cell? ⟨g,3,none⟩=some (.bool (dB y))/\X.cell? ⟨g,4,none⟩=some (.int .i64 (dA z:Nat))/\X.cell? ⟨g,5,none⟩=some (.bool (dB z))) (by kernel_rfl) (HSV.out _ HDV.out) (fun hHeld=>?_)
 refine tk 0 (h:=?_)
 refine tk 1 (h:=?_)
 refine tk 2 (h:=?_)
 refine tk 3 (h:=?_)
 refine tk 4 (h:=?_)
 refine tk 7 (h:=?_)
 refine tk 8 (h:=?_)
 refine tk 9 (h:=?_)
 refine tk 10 (h:=?_)
 refine tk 11 (h:=?_)
 refine tk 14 (h:=?_)
 refine tk 15 (h:=?_)
 refine tk 16 (h:=?_)
 refine tk 17 (h:=?_)
 refine tk 18 (h:=?_)
 try simp only[Act.put]
 refine rd1 5 (fun K hK=>?_)
 go_simp
 go_wp2_with (go_at_call 78;refine(HEN.out x _ HX.out.1 (HDW.out _ HDV.out)).mono ?_;rw[HXX.out];rintro e9 w0 ⟨rfl,hb0⟩)
 have B0:Hid (Below V.heap.size V w0):=HDV.out.trans (hb0.mono HDV.out.size)
 clear hb0
 generalize enS C (dA x) (!dB x)=s0
 refine hK.out _ _ (HSV.out _ B0.out) (fun hHeld=>?_)
 clear hK K
 refine tk 6 (h:=?_)
 try simp only[Act.put]
 refine rd1 12 (fun K hK=>?_)
 go_simp
 go_wp2_with (go_at_call 78;refine(HEN.out y _ HX.out.2.1 (HDW.out _ B0.out)).mono ?_;rw[HYY.out];rintro e9 w1 ⟨rfl,hb1⟩)
 have B1:Hid (Below V.heap.size V w1):=B0.out.trans (hb1.mono B0.out.size)
 clear hb1
 generalize enS C (dA y) (!dB y)=s1
 refine hK.out _ _ (HSV.out _ B1.out) (fun hHeld=>?_)
 clear hK K
 refine tk 13 (h:=?_)
 try simp only[Act.put]
 refine rd1 19 (fun K hK=>?_)
 go_simp
 go_wp2_with (go_at_call 78;refine(HEN.out z _ HX.out.2.2 (HDW.out _ B1.out)).mono ?_;rw[HZZ.out];rintro e9 w2 ⟨rfl,hb2⟩)
 have B2:Hid (Below V.heap.size V w2):=B1.out.trans (hb2.mono B1.out.size)
 clear hb2
 generalize enS C (dA z) (!dB z)=s2
 refine hK.out _ _ (HSV.out _ B2.out) (fun hHeld=>?_)
 clear hK K
 refine tk 20 (h:=?_)
 refine tk 21 (h:=?_)
 refine tk 22 (h:=?_)
 refine tk 23 (h:=?_)
 try simp only[Act.put]
 refine wpAnyH_done (by kernel_rfl) ?_ _
 clear hHeld
 have HBW:Hid (Below w.heap.size w w2):=HBV.out.trans (B2.out.mono (by omega))
 clear HSV HDW HXX HYY HZZ HEN HCC HX
 by_cases h1:X=Y
 · have HR:=hid_of (show((!decide (X=Y)&&!decide (Y=Z))&&!decide (Z=X))=false by simp[h1])
   go_wp2
   go_ret
   exact⟨ret_bool HR.out,HBW.out⟩
 · by_cases h2:Y=Z
   · have HR:=hid_of (show((!decide (X=Y)&&!decide (Y=Z))&&!decide (Z=X))=false by simp[h2])
     go_wp2
     go_ret
     exact⟨ret_bool HR.out,HBW.out⟩
   · by_cases h3:Z=X
     · have HR:=hid_of (show((!decide (X=Y)&&!decide (Y=Z))&&!decide (Z=X))=false by simp[h3])
       go_wp2
       go_ret
       exact⟨ret_bool HR.out,HBW.out⟩
     · have HR:=hid_of (show((!decide (X=Y)&&!decide (Y=Z))&&!decide (Z=X))=true by simp[h1,h2,h3])
       go_wp2
       go_ret
       exact⟨ret_bool (HR.out.trans (by
        have a1:((X:Nat):Int)≠(Y:Nat):=by omega
        have a2:((Y:Nat):Int)≠(Z:Nat):=by omega
        have a3:((Z:Nat):Int)≠(X:Nat):=by omega
        rw[bne_iff_ne.2 a1,bne_iff_ne.2 a2,bne_iff_ne.2 a3]
        rfl)),HBW.out⟩
end Go.Proofs.Ytagaajlbkfkaiaa
