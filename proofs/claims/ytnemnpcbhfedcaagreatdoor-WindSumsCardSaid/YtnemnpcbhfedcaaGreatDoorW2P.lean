/- Several texts of the proof, one behind the other. -/
import Derived.Test.YtnemnpcbhfedcaaGreatDoorH6P
import Derived.Test.YtnemnpcbhfedcaaGreatDoorH7
import Derived.Test.YtnemnpcbhfedcaaGreatDoorPMathP
import Derived.Test.YtnemnpcbhfedcaaGreatDoorPT4
import Derived.Test.YtnemnpcbhfedcaaGreatDoorBaseP
/- A drawing in a world; the walks of Drawing.Above, Drawing.Leaving and Drawing.Ahead. -/
namespace Go.Proofs.YtnemnpcbhfedcaaGreatDoor
open Go.RowKit
set_option maxHeartbeats 4000000
set_option maxRecDepth 100000
theorem alloc_at {w:World} {o:Obj} {k:Nat} (h:k=w.heap.size):(w.alloc o).heap[k]?=some o:=by
 rw[h]
 exact Array.getElem?_push_size
theorem alloc_old {w:World} {o p:Obj} {k:Nat} (h:w.heap[k]?=some p):(w.alloc o).heap[k]?=some p:=by
 have hk:k<w.heap.size:=(Array.getElem?_eq_some_iff.1 h).1
 exact((World.grownBy_alloc w o none).block k hk (by simp)).trans h
structure Dr (w:World) (a:Option Addr) (cap:Nat) (C:List Cr) (gF gT:Nat):Prop where
 crs:Crs w w.heap.size (.slice a C.length cap) C
 ltF:gF<w.heap.size
 ltT:gT<w.heap.size
 from_:TermsAt w gF 0 (ends C false C.length 0)
 to:TermsAt w gT 0 (ends C true C.length 0)
theorem Crs.on {w w':World} {B:Nat} {v:Value} {C:List Cr} (h:Crs w B v C) (hb:Below B w w'):Crs w' B v C:=by
 obtain⟨a,cap,rfl,hn,g⟩:=h
 refine⟨a,cap,rfl,hn,fun h0=>?_⟩
 obtain⟨b,off,rfl,hlt,hC⟩:=g h0
 exact⟨b,off,rfl,hlt,hC.on hb hlt⟩
theorem Crs.mono {w:World} {B B':Nat} {v:Value} {C:List Cr} (h:Crs w B v C) (hB:B<=B'):Crs w B' v C:=by
 obtain⟨a,cap,rfl,hn,g⟩:=h
 refine⟨a,cap,rfl,hn,fun h0=>?_⟩
 obtain⟨b,off,rfl,hlt,hC⟩:=g h0
 exact⟨b,off,rfl,Nat.lt_of_lt_of_le hlt hB,hC⟩
theorem Crs.up {w w':World} {v:Value} {C:List Cr} (h:Crs w w.heap.size v C) (hb:Below w.heap.size w w'):Crs w' w'.heap.size v C:=(h.on hb).mono hb.size
theorem Dr.on {w w':World} {a:Option Addr} {cap:Nat} {C:List Cr} {gF gT:Nat} (h:Dr w a cap C gF gT) (hb:Below w.heap.size w w'):Dr w' a cap C gF gT:=
 ⟨h.crs.up hb,Nat.lt_of_lt_of_le h.ltF hb.size,Nat.lt_of_lt_of_le h.ltT hb.size,h.from_.on hb h.ltF,h.to.on hb h.ltT⟩
theorem Dr.cross {w:World} {a:Option Addr} {cap:Nat} {C:List Cr} {gF gT:Nat} (h:Dr w a cap C gF gT) (hp:0<C.length):∃ b off,a=some ⟨b,off,none⟩/\b<w.heap.size/\CrossAt w b off C:=by
 obtain⟨a',cap',e,_,g⟩:=h.crs
 injection e with e1 e2 e3
 obtain⟨b,off,h1,h2,h3⟩:=g hp
 exact⟨b,off,by rw[e1,h1],h2,h3⟩
theorem Dr.toAt {w : World} {a : Option Addr} {cap : Nat} {C : List Cr} {gF gT : Nat} {loops : Int} (h : Dr w a cap C gF gT) (hm : mayD C loops = true) (x : Nat) (h1 : 1 ≤ x) (h2 : x ≤ 2 * C.length) :
    w.cell? ⟨gT,x*2,none⟩=some (.int .i64 (toC C x:Nat))/\w.cell? ⟨gT,x*2+1,none⟩=some (.int .i64 (toS C x:Nat)):=by
 have hT:=h.to x (by rw[ends_length];omega)
 rw[ends_at C true C.length 0 x h1 h2,Nat.zero_add]at hT
 have e:endAh C x true C.length 0=endTo C x true C.length:=rfl
 rw[e,(to_may hm x h1 h2).1]at hT
 exact hT
def drV (a:Option Addr) (cap:Nat) (C:List Cr) (loops:Int) (gF cF gT cT:Nat):Value:=.agg #[.slice a C.length cap,.int .i64 loops,.slice (some ⟨gF,0,none⟩) (2*C.length+1) cF,.slice (some ⟨gT,0,none⟩) (2*C.length+1) cT]
theorem across_any (i : Int) (k : Nat) (w : World) (hk : k < 4) :
    Calls Tryz.prog 73 #[.agg #[.int .i64 i,.int .i64 k]] w fun e w'=>e=.returned (.agg #[.int .i64 i,.int .i64 ((k+2)%4:Nat)])/\Below w.heap.size w w':=by
 obtain⟨k2,hk2⟩:∃ k2:Nat,k2=(k+2)%4:=⟨_,rfl⟩
 have e1:IntKind.i64.wrap ((k:Int)+2)=(k:Int)+2:=IntWalk.i64_in _ (by omega)
 have e2:((k:Int)+2).tmod 4=(k2:Int):=by rw[Int.tmod_eq_emod_of_nonneg (by omega)];omega
 rw[<-hk2]
 clear hk2
 have hB:Below w.heap.size w ((w.alloc (.cells #[.int .i64 i,.int .i64 k] 125)).alloc (.cells #[.int .i64 i,.int .i64 k2] 125)):=below2 _ _ _
 have hG:((w.alloc (.cells #[.int .i64 i,.int .i64 k] 125)).alloc (.cells #[.int .i64 i,.int .i64 k2] 125)).heap[w.heap.size+1]?=some (.cells #[.int .i64 i,.int .i64 k2] 125 (0,0)):=alloc_at (by simp)
 have x0:=block_cell (i:=0) (v:=.int .i64 i) hG rfl
 have x1:=block_cell (i:=1) (v:=.int .i64 k2) hG rfl
 have HB:=hidB hB
 clear hB hG
 go_enter Tryz.func73,Tryz.ntmps73
 go_wp2
 exact bodyPost_ret (v:=.agg #[.int .i64 i,.int .i64 k2]) (by simp[results,Tryz.results73,go_sem,x0,x1]) rfl ⟨rfl,HB.out⟩
theorem spotAbove_any (i : Int) (k : Nat) (w : World) (hk : k < 4) :
    Calls Tryz.prog 74 #[.agg #[.int .i64 i,.int .i64 k]] w fun e w'=>e=.returned (.bool (decide (k%2=1)))/\Below w.heap.size w w':=by
 go_enter Tryz.func74,Tryz.ntmps74
 go_wp2
 · go_ret
   have hk1:k=1:=by omega
   subst hk1
   exact⟨rfl,(Below.refl _ _).alloc (Nat.le_refl _) _⟩
 · go_ret
   refine⟨?_,(Below.refl _ _).alloc (Nat.le_refl _) _⟩
   have hk5:k=0∨k=1∨k=2∨k=3:=by omega
   rcases hk5 with rfl|rfl|rfl|rfl<;>rfl
theorem leaving_any (b off cap : Nat) (C : List Cr) (loops : Int) (vF vT : Value) (i k : Nat) (w : World) (hi : i < C.length) (hk : k < 4) (hbw : b < w.heap.size) (hC : CrossAt w b off C) :
    Calls Tryz.prog 72 #[.agg #[.slice (some ⟨b,off,none⟩) C.length cap,.int .i64 loops,vF,vT],.agg #[.int .i64 i,.int .i64 k]] w fun e w'=>e=.returned (.agg #[.int .i64 ((C.getD i Cr.none).arc k),.bool ((C.getD i Cr.none).comes k)])/\Below w.heap.size w w':=by
 obtain⟨c0,c1,c2,c3,c4⟩:=hC i hi
 clear hC
 generalize C.getD i Cr.none=x at c0 c1 c2 c3 c4
 have hB3:Below w.heap.size w (((w.alloc (.cells #[.slice (some ⟨b,off,none⟩) C.length cap,.int .i64 loops,vF,vT] 40)).alloc (.cells #[.int .i64 i,.int .i64 k] 125)).alloc (.cells #[.int .i64 0,.bool false] 103)):=below3 _ _ _ _
 have e0:=bcell hB3 hbw c0
 have e1:=bcell hB3 hbw c1
 have e2:=bcell hB3 hbw c2
 have e3:=bcell hB3 hbw c3
 have e4:=bcell hB3 hbw c4
 clear hB3 c0 c1 c2 c3 c4
 go_enter Tryz.func72,Tryz.ntmps72
 go_wp2
 clear e0 e1 e2 e3 e4
 obtain⟨W0,hW0⟩:∃ W0,W0=(((w.alloc (.cells #[.slice (some ⟨b,off,none⟩) C.length cap,.int .i64 loops,vF,vT] 40)).alloc (.cells #[.int .i64 i,.int .i64 k] 125)).alloc (.cells #[.int .i64 0,.bool false] 103)).alloc (.cells #[.int .i64 x.a,.int .i64 x.b,.int .i64 x.c,.int .i64 x.d,.bool x.plus] 51):=⟨_,rfl⟩
 rw[<-hW0]
 have hs0:W0.heap.size=w.heap.size+4:=by rw[hW0];simp
 have HB0:Hid (Below w.heap.size w W0):=(by rw[hW0];exact(below3 _ _ _ _).alloc (by simp;omega) _:Below w.heap.size w W0)
 have HT1:Hid (W0.heap[w.heap.size+1]?=some (.cells #[.int .i64 i,.int .i64 k] 125 (0,0))):=(by rw[hW0];exact alloc_old (alloc_old (alloc_at (by simp))):W0.heap[w.heap.size+1]?=some (.cells #[.int .i64 i,.int .i64 k] 125 (0,0)))
 have HT2:Hid (W0.heap[w.heap.size+1+1]?=some (.cells #[.int .i64 0,.bool false] 103 (0,0))):=(by rw[hW0];exact alloc_old (alloc_at (by simp)):W0.heap[w.heap.size+1+1]?=some (.cells #[.int .i64 0,.bool false] 103 (0,0)))
 have HT3:Hid (W0.heap[w.heap.size+1+1+1]?=some (.cells #[.int .i64 x.a,.int .i64 x.b,.int .i64 x.c,.int .i64 x.d,.bool x.plus] 51 (0,0))):=(by rw[hW0];exact alloc_at (by simp):W0.heap[w.heap.size+1+1+1]?=some (.cells #[.int .i64 x.a,.int .i64 x.b,.int .i64 x.c,.int .i64 x.d,.bool x.plus] 51 (0,0)))
 clear hW0
 have HF:Hid (∀ w',Below W0.heap.size W0 w'->w'.cell? ⟨w.heap.size+1+1+1,0,none⟩=some (.int .i64 x.a)/\w'.cell? ⟨w.heap.size+1+1+1,1,none⟩=some (.int .i64 x.b)/\w'.cell? ⟨w.heap.size+1+1+1,2,none⟩=some (.int .i64 x.c)/\w'.cell? ⟨w.heap.size+1+1+1,3,none⟩=some (.int .i64 x.d)/\w'.cell? ⟨w.heap.size+1+1+1,4,none⟩=some (.bool x.plus)/\w'.cell? ⟨w.heap.size+1,1,none⟩=some (.int .i64 k)):=fun w' hb=>by
  have g3:=(hb.block _ (by omega)).trans HT3.out
  have g1:=(hb.block _ (by omega)).trans HT1.out
  exact⟨block_cell g3 rfl,block_cell g3 rfl,block_cell g3 rfl,block_cell g3 rfl,block_cell g3 rfl,block_cell g1 rfl⟩
 have HFS:Hid (∀ wX u v,Below W0.heap.size W0 wX->(fun w'=>w'.cell? ⟨w.heap.size+1+1+1,0,none⟩=some (.int .i64 x.a)/\w'.cell? ⟨w.heap.size+1+1+1,1,none⟩=some (.int .i64 x.b)/\w'.cell? ⟨w.heap.size+1+1+1,2,none⟩=some (.int .i64 x.c)/\w'.cell? ⟨w.heap.size+1+1+1,3,none⟩=some (.int .i64 x.d)/\w'.cell? ⟨w.heap.size+1+1+1,4,none⟩=some (.bool x.plus)/\w'.cell? ⟨w.heap.size+1,1,none⟩=some (.int .i64 k)) (st2 wX (w.heap.size+1+1) 0 u v)):=fun wX u v hb=>by
  have hg:=st2_grown wX (w.heap.size+1+1) 0 u v
  have hsz:=hb.size
  have g3:=(hg.block (w.heap.size+1+1+1) (by omega) (fun e=>by have:=Option.some.inj e;omega)).trans ((hb.block _ (by omega)).trans HT3.out)
  have g1:=(hg.block (w.heap.size+1) (by omega) (fun e=>by have:=Option.some.inj e;omega)).trans ((hb.block _ (by omega)).trans HT1.out)
  exact⟨block_cell g3 rfl,block_cell g3 rfl,block_cell g3 rfl,block_cell g3 rfl,block_cell g3 rfl,block_cell g1 rfl⟩
 have HZ:Hid (∀ wX,Below W0.heap.size W0 wX->wX.cell? ⟨w.heap.size+1+1,0,none⟩=some (.int .i64 0)/\wX.cell? ⟨w.heap.size+1+1,1,none⟩=some (.bool false)/\wX.frozen? ⟨w.heap.size+1+1,0,none⟩=false/\wX.frozen? ⟨w.heap.size+1+1,1,none⟩=false):=fun wX hb=>by
  have g2:=(hb.block _ (by omega)).trans HT2.out
  exact⟨block_cell g2 rfl,block_cell g2 rfl,block_frozen g2,block_frozen g2⟩
 have HD0:Hid (Below W0.heap.size W0 W0.drew):=(Below.refl _ _).drew
 obtain⟨t0,t1,t2,t3,t4,t5⟩:=HF.out W0 (Below.refl _ _)
 have hix:=index_arr x k hk
 go_region_held3 (fun w' => w'.cell? ⟨w.heap.size + 1 + 1 + 1, 0, none⟩ = some (.int .i64 x.a) ∧ w'.cell? ⟨w.heap.size + 1 + 1 + 1, 1, none⟩ = some (.int .i64 x.b) ∧ w'.cell? ⟨w.heap.size + 1 + 1 + 1, 2, none⟩ = some (.int .i64 x.c) ∧ w'.cell? ⟨w.heap.size + 1 + 1 + 1, 3, none⟩ = some (.int .i64 x.d) ∧ w'.cell? ⟨w.heap.size + 1 + 1 + 1, 4, none⟩ = some (.bool x.plus) ∧ w'.cell? ⟨w.heap.size + 1, 1, none⟩ = some (.int .i64 k)) (first | exact HF.out _ HY.out | exact HF.out _ HA.out | exact HF.out _ HD0.out | exact HF.out _ (Below.refl _ _) | exact HFS.out _ _ _ HY.out | exact HFS.out _ _ _ HA.out) (first
  | (go_at_call 65; refine (arcs_any x _).mono ?_; rintro e9 wA ⟨rfl, hbA⟩
     first
      |have HA:Hid (Below W0.heap.size W0 wA):=HY.out.trans (hbA.mono HY.out.size)
      |have HA:Hid (Below W0.heap.size W0 wA):=HD0.out.trans hbA
     obtain⟨a0,a1,a2,a3,a4,a5⟩:=HF.out wA HA.out
     obtain⟨b0,b1,b2,b3⟩:=HZ.out wA HA.out
     clear hbA)
  | (go_at_call 47; refine (comesIn_any x k _ hk).mono ?_; rintro e9 wC ⟨rfl, hbC⟩
     first
      |have HY:Hid (Below W0.heap.size W0 wC):=HA.out.trans (hbC.mono HA.out.size)
      |have HY:Hid (Below W0.heap.size W0 wC):=HD0.out.trans hbC
     obtain⟨p0,p1,p2,p3,p4,p5⟩:=HF.out wC HY.out
     obtain⟨q0,q1,q2,q3⟩:=HZ.out wC HY.out
     clear hbC))
 all_goals first
  | (have hX := set_block (i := 1) (u := .bool (x.comes k)) (set_block (i := 0) (u := .int .i64 (x.arc k)) ((HY.out.block _ (by omega)).trans HT2.out))
     have x0:=block_cell (i:=0) (v:=.int .i64 (x.arc k)) hX rfl
     have x1:=block_cell (i:=1) (v:=.bool (x.comes k)) hX rfl
     go_wp2
     exact bodyPost_ret (v:=.agg #[.int .i64 (x.arc k),.bool (x.comes k)]) (by simp[results,Tryz.results72,go_sem,x0,x1]) rfl ⟨rfl,(HB0.out.trans (HY.out.mono (by omega))).grown (st2_grown wC (w.heap.size+1+1) 0 (.int .i64 (x.arc k)) (.bool (x.comes k))) (by have:=HY.out.size;omega) (fun q hq=>by have:=Option.some.inj hq;omega)⟩)
  | (have hX := set_block (i := 1) (u := .bool (x.comes k)) (set_block (i := 0) (u := .int .i64 (x.arc k)) ((HA.out.block _ (by omega)).trans HT2.out))
     have x0:=block_cell (i:=0) (v:=.int .i64 (x.arc k)) hX rfl
     have x1:=block_cell (i:=1) (v:=.bool (x.comes k)) hX rfl
     go_wp2
     exact bodyPost_ret (v:=.agg #[.int .i64 (x.arc k),.bool (x.comes k)]) (by simp[results,Tryz.results72,go_sem,x0,x1]) rfl ⟨rfl,(HB0.out.trans (HA.out.mono (by omega))).grown (st2_grown wA (w.heap.size+1+1) 0 (.int .i64 (x.arc k)) (.bool (x.comes k))) (by have:=HA.out.size;omega) (fun q hq=>by have:=Option.some.inj hq;omega)⟩)
theorem field_dart (a:Int) (p:Bool) (w:World):(Instr.field 103 (.agg #[.int .i64 a,.bool p]) 0).run Tryz.prog w=.ok (.int .i64 a) w:=by
 simp[Instr.field,run_underlying Tryz.underlying103,go_sem,asAgg]
theorem ahead_any (a : Option Addr) (cap : Nat) (C : List Cr) (loops : Int) (gF cF gT cT : Nat) (x : Nat) (w : World) (hm : mayD C loops = true) (h1 : 1 ≤ x) (h2 : x ≤ 2 * C.length) (hD : Dr w a cap C gF gT) :
    Calls Tryz.prog 41 #[drV a cap C loops gF cF gT cT,.int .i64 x] w fun e w'=>e=.returned (.int .i64 (nx C x:Nat))/\Below w.heap.size w w':=by
 obtain⟨b,off,rfl,hbw,hC⟩:=hD.cross (by omega)
 unfold drV
 have hT:=hD.toAt hm x h1 h2
 have c0:=hT.1
 have c1:=hT.2
 have hlt:=hD.ltT
 obtain⟨-,hi,hk,-,-⟩:=to_may hm x h1 h2
 have HNX:Hid ((C.getD (toC C x) Cr.none).arc ((toS C x+2)%4)=(nx C x:Int)):=(nx_may hm x h1 h2).1
 have HC:Hid (CrossAt w b off C):=hC
 clear hT hD hm hC
 generalize toS C x=k at c1 hk HNX
 generalize toC C x=i at c0 hi HNX
 generalize nx C x=z at HNX
 have hx:x<2*C.length+1:=by omega
 obtain⟨k2,hk2⟩:∃ k2:Nat,k2=(k+2)%4:=⟨_,rfl⟩
 have e1:IntKind.i64.wrap ((k:Int)+2)=(k:Int)+2:=IntWalk.i64_in _ (by omega)
 have e2:((k:Int)+2).tmod 4=(k2:Int):=by rw[Int.tmod_eq_emod_of_nonneg (by omega)];omega
 have hk24:k2<4:=by omega
 rw[<-hk2]at HNX
 have hfd:=field_dart (z:Int)
 obtain⟨X,hX⟩:∃ X,X=w.alloc (.cells #[.slice (some ⟨b,off,none⟩) C.length cap,.int .i64 loops,.slice (some ⟨gF,0,none⟩) (2*C.length+1) cF,.slice (some ⟨gT,0,none⟩) (2*C.length+1) cT] 40):=⟨_,rfl⟩
 have HX:Hid (X=w.alloc (.cells #[.slice (some ⟨b,off,none⟩) C.length cap,.int .i64 loops,.slice (some ⟨gF,0,none⟩) (2*C.length+1) cF,.slice (some ⟨gT,0,none⟩) (2*C.length+1) cT] 40)):=hX
 have hsX:X.heap.size=w.heap.size+1:=by rw[hX];simp
 have HB1:Hid (Below w.heap.size w X):=(by rw[hX];exact(Below.refl _ _).alloc (Nat.le_refl _) _:Below w.heap.size w X)
 have HG1:Hid (X.heap[w.heap.size]?=some (.cells #[.slice (some ⟨b,off,none⟩) C.length cap,.int .i64 loops,.slice (some ⟨gF,0,none⟩) (2*C.length+1) cF,.slice (some ⟨gT,0,none⟩) (2*C.length+1) cT] 40 (0,0))):=(by rw[hX];exact alloc_at rfl:X.heap[w.heap.size]?=some (.cells #[.slice (some ⟨b,off,none⟩) C.length cap,.int .i64 loops,.slice (some ⟨gF,0,none⟩) (2*C.length+1) cF,.slice (some ⟨gT,0,none⟩) (2*C.length+1) cT] 40 (0,0)))
 clear hX
 have HK:Hid (∀ w',Below X.heap.size X w'->w'.cell? ⟨w.heap.size,0,none⟩=some (.slice (some ⟨b,off,none⟩) C.length cap)/\w'.cell? ⟨w.heap.size,1,none⟩=some (.int .i64 loops)/\w'.cell? ⟨w.heap.size,2,none⟩=some (.slice (some ⟨gF,0,none⟩) (2*C.length+1) cF)/\w'.cell? ⟨w.heap.size,3,none⟩=some (.slice (some ⟨gT,0,none⟩) (2*C.length+1) cT)/\w'.cell? ⟨gT,x*2,none⟩=some (.int .i64 i)/\w'.cell? ⟨gT,x*2+1,none⟩=some (.int .i64 k)):=fun w' hb=>by
  have g:=(hb.block _ (by omega)).trans HG1.out
  have hb2:=HB1.out.trans (hb.mono (by omega))
  exact⟨block_cell g rfl,block_cell g rfl,block_cell g rfl,block_cell g rfl,bcell hb2 hlt c0,bcell hb2 hlt c1⟩
 have HD0:Hid (Below X.heap.size X X.drew):=(Below.refl _ _).drew
 have HAC:Hid (∀ W:World,Calls Tryz.prog 73 #[.agg #[.int .i64 i,.int .i64 k]] W fun e w'=>e=.returned (.agg #[.int .i64 i,.int .i64 (k2:Nat)])/\Below W.heap.size W w'):=fun W=>(by rw[hk2];exact across_any i k W hk)
 clear hk2 c0 c1
 obtain⟨t0,t1,t2,t3,t4,t5⟩:=HK.out X (Below.refl _ _)
 have hx0:(0:Int)<=(x:Int):=by omega
 have hx9:(x:Int)<2*(C.length:Int)+1:=by omega
 go_enter Tryz.func41,Tryz.ntmps41
 go_wp2
 rw[<-HX.out]
 go_region_held3 (fun w' => w'.cell? ⟨w.heap.size, 0, none⟩ = some (.slice (some ⟨b, off, none⟩) C.length cap) ∧ w'.cell? ⟨w.heap.size, 1, none⟩ = some (.int .i64 loops) ∧ w'.cell? ⟨w.heap.size, 2, none⟩ = some (.slice (some ⟨gF, 0, none⟩) (2 * C.length + 1) cF) ∧ w'.cell? ⟨w.heap.size, 3, none⟩ = some (.slice (some ⟨gT, 0, none⟩) (2 * C.length + 1) cT) ∧ w'.cell? ⟨gT, x * 2, none⟩ = some (.int .i64 i) ∧ w'.cell? ⟨gT, x * 2 + 1, none⟩ = some (.int .i64 k)) (first | exact HK.out _ HD0.out | exact HK.out _ HL.out | exact HK.out _ HA.out) (first
  | (go_at_call 72; refine (leaving_any b off cap C loops _ _ i k2 _ hi hk24 hb9 HC3.out).mono ?_; rw [HNX.out]; rintro e9 w4 ⟨rfl, hb4⟩
     have HL:Hid (Below X.heap.size X w4):=HA.out.trans (hb4.mono HA.out.size))
  | (go_at_call 73; refine (HAC.out _).mono ?_; rintro e9 w3 ⟨rfl, hb3⟩
     have HA:Hid (Below X.heap.size X w3):=HD0.out.trans (hb3.mono HD0.out.size)
     have HC3:Hid (CrossAt w3 b off C):=HC.out.on (HB1.out.trans (HA.out.mono (by omega))) hbw
     have hb9:b<w3.heap.size:=Nat.lt_of_lt_of_le hbw (HB1.out.trans (HA.out.mono (by omega))).size
     clear hb3))
 all_goals
  go_wp2
  go_ret
  exact⟨rfl,HB1.out.trans (HL.out.mono (by omega))⟩
end Go.Proofs.YtnemnpcbhfedcaaGreatDoor
/- A row that is taken from at its head and appended to at its end: in the world, and the step of append upon it. -/
namespace Go.Proofs.YtnemnpcbhfedcaaGreatDoor
open Go.RowKit
def QueAt (w:World) (base:Nat) (e:TypeId) (v:Value) (xs:List Value):Prop:=
 ∃ g off cap cur,v=.slice (some ⟨g,off,none⟩) xs.length cap/\base<=g/\w.heap[g]?=some (.cells cur e (0,0))/\xs.length<=cap/\cap<=maxLen/\off+cap<=cur.size/\(cur.toList.drop off).take xs.length=xs
theorem QueAt.kept {w w':World} {base:Nat} {e:TypeId} {v:Value} {xs:List Value} {row:Option Nat} (h:QueAt w base e v xs) (hg:w.grownBy w' row) (hne:v.ownBlock≠row):QueAt w' base e v xs:=by
 obtain⟨g,off,cap,cur,rfl,hb,hgg,rest⟩:=h
 refine⟨g,off,cap,cur,rfl,hb,?_,rest⟩
 rw[hg.block g (Array.getElem?_eq_some_iff.1 hgg).1 (by simpa[Value.ownBlock] using hne)]
 exact hgg
theorem QueAt.lt {w:World} {base:Nat} {e:TypeId} {v:Value} {xs:List Value} (h:QueAt w base e v xs):∀ k,v.ownBlock=some k->base<=k/\k<w.heap.size:=by
 intro k hk
 obtain⟨g,off,cap,cur,rfl,hb,hgg,rest⟩:=h
 have e:=Option.some.inj hk
 have e2:g=k:=e
 subst e2
 exact⟨hb,(Array.getElem?_eq_some_iff.1 hgg).1⟩
theorem QueAt.shape {w:World} {base:Nat} {e:TypeId} {v:Value} {xs:List Value} (h:QueAt w base e v xs):∃ g off cap,v=.slice (some ⟨g,off,none⟩) xs.length cap/\xs.length<=cap:=by
 obtain⟨g,off,cap,cur,rfl,_,_,h2,_⟩:=h
 exact⟨g,off,cap,rfl,h2⟩
theorem QueAt.size {w:World} {base g off n cap:Nat} {e:TypeId} {xs:List Value} (h:QueAt w base e (.slice (some ⟨g,off,none⟩) n cap) xs):n=xs.length/\n<=cap/\cap<=maxLen/\base<=g/\g<w.heap.size:=by
 obtain⟨g',off',cap',cur,ev,hb,hgg,h1,h2,_⟩:=h
 injection ev with e1 e2 e3
 injection e1 with e1
 injection e1 with e4 e5
 subst e4 e2 e3
 exact⟨rfl,h1,h2,hb,(Array.getElem?_eq_some_iff.1 hgg).1⟩
theorem QueAt.cell {w:World} {base g off n cap:Nat} {e:TypeId} {xs:List Value} (h:QueAt w base e (.slice (some ⟨g,off,none⟩) n cap) xs) (j:Nat) (u:Value) (hj:xs[j]?=some u):w.cell? ⟨g,off+j,none⟩=some u:=by
 obtain⟨g',off',cap',cur,ev,hb,hgg,h1,h2,h3,h4⟩:=h
 injection ev with e1 e2 e3
 injection e1 with e1
 injection e1 with e4 e5
 subst e4 e5
 rw[cell_of_row w g _ cur e (0,0) hgg]
 rw[<-h4,List.getElem?_take]at hj
 split at hj
 · rw[List.getElem?_drop]at hj
   simpa using hj
 · cases hj
theorem QueAt.tail {w:World} {base g off n cap:Nat} {e:TypeId} {x:Value} {xs:List Value} (h:QueAt w base e (.slice (some ⟨g,off,none⟩) n cap) (x::xs)):QueAt w base e (.slice (some ⟨g,off+1,none⟩) (n-1) (cap-1)) xs:=by
 obtain⟨g',off',cap',cur,ev,hb,hgg,h1,h2,h3,h4⟩:=h
 injection ev with e1 e2 e3
 injection e1 with e1
 injection e1 with e4 e5
 subst e4 e5 e3
 simp only[List.length_cons]at e2 h1 h4
 refine⟨g,off+1,cap-1,cur,by rw[e2];simp,hb,hgg,by omega,by omega,by omega,?_⟩
 have h5:((cur.toList.drop off).take (xs.length+1)).drop 1=xs:=by rw[h4];rfl
 rw[List.drop_take,List.drop_drop]at h5
 simpa using h5
theorem QueAt.tail1 {w:World} {base g off n:Nat} {e:TypeId} {x:Value} {xs:List Value} (h:QueAt w base e (.slice (some ⟨g,off,none⟩) n 1) (x::xs)):QueAt w base e (.slice (some ⟨g,off,none⟩) (n-1) 0) xs/\xs=[]:=by
 obtain⟨g',off',cap',cur,ev,hb,hgg,h1,h2,h3,h4⟩:=h
 injection ev with e1 e2 e3
 injection e1 with e1
 injection e1 with e4 e5
 subst e4 e5 e3
 simp only[List.length_cons]at e2 h1 h4
 have hx:xs=[]:=List.length_eq_zero_iff.1 (by omega)
 subst hx
 exact⟨⟨g,off,0,cur,by rw[e2];simp,hb,hgg,Nat.zero_le _,Nat.zero_le _,by omega,by simp⟩,rfl⟩
theorem QueAt.made {w:World} {base g n cap:Nat} {e:TypeId} {xs:List Value} (h:w.ownsRow base e 1 (.slice (some ⟨g,0,none⟩) n cap) n xs):QueAt w base e (.slice (some ⟨g,0,none⟩) n cap) xs:=by
 obtain⟨hl,h⟩:=h
 rcases h with⟨h,_⟩|⟨g',cap',cur,ev,hb,hgg,h1,h2,h3,h4⟩
 · cases h
 · injection ev with e1 e2 e3
   injection e1 with e1
   injection e1 with e4
   subst e4 e3
   rw[Nat.mul_one]at hl h3 h4
   exact⟨g,0,cap,cur,by rw[hl],hb,hgg,by omega,h2,by omega,by rw[hl];simpa using h4⟩
theorem run_append_que {P : Program} (w : World) (base : Nat) (t ty e : TypeId) (i : TypeInfo) (z : Value) (bytes : Nat) (ht : P.underlying t = some (.slice e)) (hi : P.info? e = some i) (hz : i.zero = some z)
    (hsize:i.size=1) (hby:i.bytes=bytes) (hzs:z.cells.size=1)
    (v:Value) (xs:List Value) (hown:QueAt w base e v xs)
    (a:Addr) (c:Nat) (u:Value) (hnews:w.cell? a=some u) (h1:u.oneCell'=true)
    (h63:xs.length+1<=maxLen) (hbytes:(xs.length+1)*bytes<=140737488355328) (hbase:base<=w.heap.size):
    ∃ v' w',(Builtin.append_ #[t,t] ty #[v,.slice (some a) 1 c]).run P w=.ok v' w'/\QueAt w' base e v' (xs++[u])/\w.grownBy w' v.ownBlock:=by
 subst hby
 have hsmall:xs.length+1<=9223372036854775807:=by simp only[maxLen]at h63;omega
 have hl:[u].length=1*i.size:=by rw[hsize];rfl
 have hcells:∀ j v,[u][j]?=some v->w.cell? (a.add j)=some v:=by
  intro j v hj
  cases j with
  |zero=>
   have e:v=u:=by simpa using hj.symm
   subst e
   have ha:a.add 0=a:=by unfold Addr.add;split<;>simp_all
   rw[ha]
   exact hnews
  |succ j=>simp at hj
 obtain⟨g,off,cap,cur,rfl,hb,hgg,hnc,hcm,hcs,htake⟩:=hown
 by_cases hroom:xs.length+1<=cap
 · have hf:=run_firstCells_some (P:=P) w i.size 1 a 1 c [u] hl hcells
   have hst:=run_storeCells_at P g (off+xs.length) e [u] 0 cur w hgg (by simp;omega) (by simpa using h1)
   simp only[Nat.add_zero]at hst
   refine⟨.slice (some ⟨g,off,none⟩) (xs.length+1) cap,w.setRow g (cur.toList.take (off+xs.length)++[u]++cur.toList.drop (off+xs.length+[u].length)).toArray,?_,⟨g,off,cap,_,by simp,hb,setRow_heap w g cur _ e _ hgg,by simpa using hroom,hcm,?_,?_⟩,⟨rfl,rfl,rfl,by simp,fun k _ hk=>setRow_other w g k _ (fun e=>hk (by simp[Value.ownBlock,e]))⟩⟩
   · rw[hsize]at hf
     simp[Builtin.append_,run_underlying ht,sizeOf,typeInfo,hi,hsize,Builtin.lenOf,hroom,hf,Addr.add_lit]
     simp at hst
     simp[hst]
   · simp only[List.size_toArray,List.length_append,List.length_take,List.length_drop,Array.length_toList,List.length_cons,List.length_nil]
     omega
   · have h5:(cur.toList.take (off+xs.length)).drop off=xs:=by rw[List.drop_take,Nat.add_sub_cancel_left];exact htake
     simp only[List.append_assoc]
     rw[List.drop_append_of_le_length (by simp;omega),h5,<-List.append_assoc]
     exact List.take_left
 · have holds : ∀ j v, xs[j]? = some v → w.cell? ((⟨g, off, none⟩ : Addr).add j) = some v := fun j v hj => by
     have hadd:(⟨g,off,none⟩:Addr).add j=⟨g,off+j,none⟩:=by unfold Addr.add;split<;>simp_all
     rw[hadd]
     exact QueAt.cell (⟨g,off,cap,cur,rfl,hb,hgg,hnc,hcm,hcs,htake⟩:QueAt w base e (.slice (some ⟨g,off,none⟩) xs.length cap) xs) j v hj
   have hr:=run_append_grow (P:=P) w t ty e i z ht hi hz ⟨g,off,none⟩ xs.length cap xs (by rw[hsize,Nat.mul_one]) holds a 1 c [u] hl hcells (by omega) (by omega) (growslice_fits (by omega) hbytes)
   have hge:=grownCap_ge w (xs.length+1) cap e
   refine⟨_,_,hr,⟨w.heap.size,0,_,_,by simp,hbase,heap_alloc_new w.drew _,by simpa using hge,grownCap_le_maxLen w (xs.length+1) cap e h63,?_,?_⟩,⟨rfl,rfl,rfl,by simp,fun k hk _=>Array.getElem?_push_lt hk▸(Array.getElem?_eq_getElem hk).symm⟩⟩
   · simp only[Array.size_append,List.size_toArray,size_zeroCells,hzs,List.length_cons,List.length_nil]
     omega
   · simp only[Array.toList_append,List.drop_zero]
     exact List.take_left
theorem wpList_append_que {P : Program} (w : World) {ops : Array Oper} {rest : List Oper} {o : Oper} {a : Act} {Q : Exit → Act → World → Prop} (hgd : o.guard = none) (s x : Operand) (t : TypeId)
    (ho:o.op=.call { callee:=.builtin .append,args:=#[s,x],argTypes:=#[t,t] })
    (base:Nat) (e:TypeId) (i:TypeInfo) (z:Value) (bytes:Nat) (ht:P.underlying t=some (.slice e)) (hi:P.info? e=some i) (hz:i.zero=some z)
    (hsize:i.size=1) (hby:i.bytes=bytes) (hzs:z.cells.size=1)
    (v:Value) (xs:List Value) (hs:a.eval s=v) (hown:QueAt w base e v xs)
    (ad:Addr) (c:Nat) (u:Value) (hx:a.eval x=.slice (some ad) 1 c) (hnews:w.cell? ad=some u) (h1:u.oneCell'=true)
    (h63:xs.length+1<=maxLen) (hbytes:(xs.length+1)*bytes<=140737488355328) (hbase:base<=w.heap.size)
    (h:∀ v' w',QueAt w' base e v' (xs++[u])->w.grownBy w' v.ownBlock->wpList P ops Q rest (a.put o.dst v') w'):wpList P ops Q (o::rest) a w:=by
 refine wpList_plain hgd fun _ hK=>?_
 obtain⟨v',w',hr,h2,h3⟩:=run_append_que (P:=P) w base t o.type e i z bytes ht hi hz hsize hby hzs v xs hown ad c u hnews h1 h63 hbytes hbase
 unfold Oper.wp execOp
 simp only[ho,resolve,invoke,builtin,Sem.run_bind,Sem.run_pure,Result.andThen_ok,List.map_toArray,List.map_cons,List.map_nil,hs,hx,hr]
 exact hK _ _ (h v' w' h2 h3)
end Go.Proofs.YtnemnpcbhfedcaaGreatDoor
/- Lists of numbers that a call owns; the walk of Drawing.Walks. -/
namespace Go.Proofs.YtnemnpcbhfedcaaGreatDoor
open Go.RowKit
set_option maxHeartbeats 8000000
set_option maxRecDepth 100000
def nats (l:List Nat):List Value:=l.map fun x=>.int .i64 (x:Nat)
def bools (l:List Bool):List Value:=l.map fun x=>.bool x
theorem nats_len (l:List Nat):(nats l).length=l.length:=by simp[nats]
theorem nats_get (l:List Nat) (i:Nat) (h:i<l.length):(nats l)[i]?=some (.int .i64 (l.getD i 0:Nat)):=by simp[nats,List.getD,h]
theorem bools_get (l:List Bool) (i:Nat) (h:i<l.length):(bools l)[i]?=some (.bool (l.getD i true)):=by simp[bools,List.getD,h]
theorem bools_set (l:List Bool) (i:Nat) (b:Bool):(bools l).set i (.bool b)=bools (l.set i b):=by simp[bools,List.map_set]
theorem nats_app (l:List Nat) (x:Nat):nats (l++[x])=nats l++[.int .i64 (x:Nat)]:=by simp[nats]
def NatsOwn (w:World) (B:Nat) (v:Value) (L:List (List Nat)):Prop:=
 ∃ ys:List Value,ys.length=L.length/\w.ownsRow B 53 1 v ys.length ys/\∀ j,j<L.length->w.ownsRow B 3 1 (ys.getD j (.bool false)) (L.getD j []).length (nats (L.getD j []))
theorem NatsOwn.any {w w':World} {B:Nat} {v:Value} {L:List (List Nat)} (h:NatsOwn w B v L) (hg:w.grownBy w' none):NatsOwn w' B v L:=by
 obtain⟨ys,h1,h2,h3⟩:=h
 exact⟨ys,h1,own_any h2 hg,fun j hj=>own_any (h3 j hj) hg⟩
theorem NatsOwn.low {w:World} {B B':Nat} {v:Value} {L:List (List Nat)} (h:NatsOwn w B v L) (hB:B'<=B):NatsOwn w B' v L:=by
 obtain⟨ys,h1,h2,h3⟩:=h
 exact⟨ys,h1,own_low h2 hB,fun j hj=>own_low (h3 j hj) hB⟩
theorem grown_none {w w':World} {row:Option Nat} (h:w.grownBy w' none):w.grownBy w' row:=⟨h.os,h.tape,h.output,h.size,fun k hk _=>h.block k hk (by simp)⟩
theorem grown_new {W X Y:World} {row r2:Option Nat} (h:W.grownBy X row) (g:X.grownBy Y r2) (hr:∀ k,r2=some k->W.heap.size<=k):W.grownBy Y row:=
 ⟨g.os.trans h.os,g.tape.trans h.tape,g.output.trans h.output,Nat.le_trans h.size g.size,fun k hk hn=>(g.block k (Nat.lt_of_lt_of_le hk h.size) (fun e=>by have:=hr k e.symm;omega)).trans (h.block k hk hn)⟩
def lenOf:Value->Nat
 |.slice _ n _=>n
 |_=>0
theorem infoInt:(Tryz.prog.info? 3).map (fun i=>(i.zero,i.size,i.bytes))=some (some (.int .i64 0),1,8):=by kernel_rfl
theorem infoBool:(Tryz.prog.info? 4).map (fun i=>(i.zero,i.size,i.bytes))=some (some (.bool false),1,1):=by kernel_rfl
theorem infoInts:(Tryz.prog.info? 53).map (fun i=>(i.zero,i.size,i.bytes))=some (some (.slice none 0 0),1,24):=by kernel_rfl
theorem int_one (x:Int):∀ u∈[Value.int .i64 x],u.oneCell'=true:=by
 intro u hu
 simp only[List.mem_singleton]at hu
 subst hu
 rfl
theorem made_false (n:Nat):(madeCells (Value.bool false).cells (n*1)).toList=bools (List.replicate n false):=by
 have e:(Value.bool false).cells=#[Value.bool false]:=rfl
 rw[e,toList_madeCells_one,Nat.mul_one]
 simp[bools]
structure WkAt (w:World) (gS cS:Nat) (box:Array Value) (tb:TypeId) (n:Nat) (R:List (List Nat)×List Bool) (v3:Value) (zs:List Value) (wr:World):Prop where
 box:wr.heap[w.heap.size]?=some (.cells box tb (0,0))
 seen:wr.ownsRow (w.heap.size+1) 4 1 (.slice (some ⟨gS,0,none⟩) (n+1) cS) (n+1) (bools R.2)
 len:zs.length=R.1.length
 rows:wr.ownsRow (w.heap.size+1) 53 1 v3 zs.length zs
 each:∀ j,j<zs.length->wr.ownsRow (w.heap.size+1) 3 1 (zs.getD j (.bool false)) (R.1.getD j []).length (nats (R.1.getD j []))
 bel:Below w.heap.size w wr
theorem walksTo_next {f:Nat->Nat} {n i:Nat} {acc:List Nat} {seen:List Bool} (h:walkF f (n+1) (walksTo f n i).2 (i+1) []=(acc,seen)):walksTo f n (i+1)=(if acc=[] then(walksTo f n i).1 else(walksTo f n i).1++[acc],seen):=by
 simp only[walksTo]
 rw[h]
theorem arcRings_ahead (a : Option Addr) (cap : Nat) (C : List Cr) (loops : Int) (gF cF gT cT : Nat) (w : World) (hm : mayD C loops = true) (hD : Dr w a cap C gF gT) :
    Calls Tryz.prog 40 #[drV a cap C loops gF cF gT cT,.func (.func 41) #[drV a cap C loops gF cF gT cT] #[]] w fun e w'=>∃ v,e=.returned v/\NatsOwn w' w.heap.size v (walksM C)/\Below w.heap.size w w':=by
 obtain⟨s1,-,-,-⟩:=sizeB_iff (may_size hm)
 obtain⟨i0,hi,hz0,hz1,hz2⟩:=info_parts infoInt
 obtain⟨i1,hj,hy0,hy1,hy2⟩:=info_parts infoInts
 obtain⟨i2,hk,hx0,hx1,hx2⟩:=info_parts infoBool
 unfold drV
 have HM:Hid (mayD C loops=true):=hm
 have HD:Hid (Dr w a cap C gF gT):=hD
 have HNX:Hid (∀ x,1<=x->x<=2*C.length->1<=nx C x/\nx C x<=2*C.length):=nx_closed hm
 have HWM:Hid (walksM C=(walksTo (nx C) (2*C.length) (2*C.length)).1):=(rfl:walksM C=(walksTo (nx C) (2*C.length) (2*C.length)).1)
 clear hm hD
 obtain⟨w0,hw0⟩:∃ w0,w0=w.alloc (.cells #[.slice a C.length cap,.int .i64 loops,.slice (some ⟨gF,0,none⟩) (2*C.length+1) cF,.slice (some ⟨gT,0,none⟩) (2*C.length+1) cT] 40):=⟨_,rfl⟩
 have HW0:Hid (w0=w.alloc (.cells #[.slice a C.length cap,.int .i64 loops,.slice (some ⟨gF,0,none⟩) (2*C.length+1) cF,.slice (some ⟨gT,0,none⟩) (2*C.length+1) cT] 40)):=hw0
 have hs0:w0.heap.size=w.heap.size+1:=by rw[hw0];simp
 have HB0:Hid (Below w.heap.size w w0):=(by rw[hw0];exact(Below.refl _ _).alloc (Nat.le_refl _) _:Below w.heap.size w w0)
 have HT0:Hid (w0.heap[w.heap.size]?=some (.cells #[.slice a C.length cap,.int .i64 loops,.slice (some ⟨gF,0,none⟩) (2*C.length+1) cF,.slice (some ⟨gT,0,none⟩) (2*C.length+1) cT] 40 (0,0))):=(by rw[hw0];exact alloc_at rfl:w0.heap[w.heap.size]?=some (.cells #[.slice a C.length cap,.int .i64 loops,.slice (some ⟨gF,0,none⟩) (2*C.length+1) cF,.slice (some ⟨gT,0,none⟩) (2*C.length+1) cT] 40 (0,0)))
 clear hw0
 go_enter Tryz.func40,Tryz.ntmps40
 go_wp2_with (first|(at_make;refine wpList_make_full _ rfl _ _ 122 rfl (w.heap.size+1) 4 i2 (.bool false) 1 Tryz.underlying122 hk hx0 hx1 .i64 .i64 _ _ (2*C.length+1) rfl rfl rfl rfl (by rw[hx2];omega) (by unfold maxLen;omega) (by simp) ?_;intro w1 hrow hg1;refine Hid.out ?_))
 refine Lib.hid ?_
 rw[<-HW0.out]at hrow hg1
 rw[made_false,hs0]at hrow
 have HK0:Hid (WkAt w (w.heap.size+1) (2*C.length+1) #[.slice a C.length cap,.int .i64 loops,.slice (some ⟨gF,0,none⟩) (2*C.length+1) cF,.slice (some ⟨gT,0,none⟩) (2*C.length+1) cT] 40 (2*C.length) (walksTo (nx C) (2*C.length) 0) (.slice none 0 0) [] w1):=
  ⟨(hg1.block _ (by omega) (by simp)).trans HT0.out,hrow,rfl,World.ownsRow_nil _ _ _ _,fun j hj=>absurd hj (Nat.not_lt_zero _),HB0.out.grown hg1 (by omega) (fun k hk=>by cases hk)⟩
 clear hrow hg1 HT0 HB0 hs0 HW0
 go_wp2
 go_loopw [5,7] (fun v3 v5 wr=>∃ (i j:Nat) (zs:List Value),i<=2*C.length/\Hid (j=i+1)/\v5=.int .i64 (j:Nat)/\WkAt w (w.heap.size+1) (2*C.length+1) #[.slice a C.length cap,.int .i64 loops,.slice (some ⟨gF,0,none⟩) (2*C.length+1) cF,.slice (some ⟨gT,0,none⟩) (2*C.length+1) cT] 40 (2*C.length) (walksTo (nx C) (2*C.length) i) v3 zs wr) (fun _ v5 _=>2*C.length+1-(intOf v5).toNat)
 case atStart=>exact⟨0,1,[],Nat.zero_le _,(rfl:1=0+1),rfl,HK0.out⟩
 case round=>
  clear HK0
  rename World=>W1
  obtain⟨i,j0,zs,hin,hji,rfl,hk⟩:=hrel
  have b3:W1.cell? ⟨w.heap.size,3,none⟩=some (.slice (some ⟨gT,0,none⟩) (2*C.length+1) cT):=block_cell hk.box rfl
  have HK:Hid (WkAt w (w.heap.size+1) (2*C.length+1) #[.slice a C.length cap,.int .i64 loops,.slice (some ⟨gF,0,none⟩) (2*C.length+1) cF,.slice (some ⟨gT,0,none⟩) (2*C.length+1) cT] 40 (2*C.length) (walksTo (nx C) (2*C.length) i) _ zs W1):=hk
  have hgS:=hk.seen.lt (w.heap.size+1) rfl
  have HSL:Hid ((walksTo (nx C) (2*C.length) i).2.length=2*C.length+1):=walksTo_len _ _ _
  have HCT:Hid ((walksTo (nx C) (2*C.length) i).1.length<=i):=walksTo_count _ _ _
  by_cases hil:i<2*C.length
  · have hsd:=hk.seen
    have hbl:=hk.bel
    have hj1:1<=j0:=by have:=hji.out;omega
    have hj2:j0<=2*C.length:=by have:=hji.out;omega
    have hdj:decide ((j0:Int)<2*(C.length:Int)+1)=true:=by simp;omega
    have hdj2:decide (j0<2*C.length+1)=true:=by simp;omega
    clear hk
    go_wp2
    go_loopw [8, 9] (fun v6 v7 ws => ∃ (f : Nat) (seen : List Bool) (x : Nat) (acc : List Nat), v7 = .int .i64 (x : Nat) ∧ 1 ≤ x ∧ x ≤ 2 * C.length ∧ Hid (walkF (nx C) (2 * C.length + 1) (walksTo (nx C) (2 * C.length) i).2 j0 [] = walkF (nx C) f seen x acc) ∧ Hid (unseen seen ≤ f) ∧ seen.length = 2 * C.length + 1 ∧ Hid (acc.length + unseen seen ≤ 2 * C.length + 1) ∧
        ws.ownsRow W1.heap.size 3 1 v6 acc.length (nats acc)/\ws.ownsRow (w.heap.size+1) 4 1 (.slice (some ⟨w.heap.size+1,0,none⟩) (2*C.length+1) (2*C.length+1)) (2*C.length+1) (bools seen)/\W1.grownBy ws (some (w.heap.size+1))/\Below w.heap.size w ws) (fun v6 _ _=>2*C.length+2-lenOf v6)
    case atStart=>exact⟨2*C.length+1,(walksTo (nx C) (2*C.length) i).2,j0,[],rfl,by omega,by omega,(rfl:walkF (nx C) (2*C.length+1) (walksTo (nx C) (2*C.length) i).2 j0 []=_),(by have:=unseen_le (walksTo (nx C) (2*C.length) i).2;rw[HSL.out]at this;exact this:unseen (walksTo (nx C) (2*C.length) i).2<=2*C.length+1),HSL.out,(by have:=unseen_le (walksTo (nx C) (2*C.length) i).2;rw[HSL.out]at this;simpa using this:([]:List Nat).length+unseen (walksTo (nx C) (2*C.length) i).2<=2*C.length+1),World.ownsRow_nil _ _ _ _,hsd,World.grownBy.refl _ _,hbl⟩
    case round=>
     clear hsd hbl b3
     rename World=>W3
     obtain⟨f,seen,x,acc,rfl,hx1,hx2,hwk,hun,hsl,hac,hown,hsd,hgr,hbl⟩:=hrel
     obtain⟨a6,c6,rfl⟩:=own_capS hown
     have e0:W3.cell? ⟨w.heap.size+1,x,none⟩=some (.bool (seen.getD x true)):=by
      rw[hsd.cellAt x (by omega)];exact bools_get seen x (by omega)
     have z0:W3.frozen? ⟨w.heap.size+1,x,none⟩=false:=hsd.frozenAt x
     have hszW:=hgr.size
     cases hbit:seen.getD x true with
     |false=>
      rw[hbit]at e0
      have hst:=hsd.stored x (.bool true)
      rw[bools_set]at hst
      have HSD:Hid ((W3.setCell ⟨w.heap.size+1,x,none⟩ (.bool true)).ownsRow (w.heap.size+1) 4 1 (.slice (some ⟨w.heap.size+1,0,none⟩) (2*C.length+1) (2*C.length+1)) (2*C.length+1) (bools (seen.set x true))):=hst.1
      have HGS:Hid (W3.grownBy (W3.setCell ⟨w.heap.size+1,x,none⟩ (.bool true)) (some (w.heap.size+1))):=hst.2
      have HOW:Hid ((W3.setCell ⟨w.heap.size+1,x,none⟩ (.bool true)).ownsRow W1.heap.size 3 1 (.slice a6 acc.length c6) acc.length (nats acc)):=hown.kept hst.2 (own_ne hown hsd (by decide))
      have HWK:Hid (walkF (nx C) f seen x acc=walkF (nx C) (f-1) (seen.set x true) (nx C x) (acc++[x])/\unseen (seen.set x true)<=f-1):=walkF_more hbit hun.out
      have HUS:Hid (unseen (seen.set x true)+1=unseen seen):=unseen_set hbit
      have hacl:acc.length<2*C.length+1:=by have:=hac.out;have:=HUS.out;omega
      have hs3:(W3.setCell ⟨w.heap.size+1,x,none⟩ (.bool true)).heap.size=W3.heap.size:=by simp
      have hlt3:w.heap.size+1<W3.heap.size:=by omega
      have HB3:Hid (Below w.heap.size w (W3.setCell ⟨w.heap.size+1,x,none⟩ (.bool true))):=hbl.grown hst.2 hbl.size (fun q hq=>by have:=Option.some.inj hq;omega)
      have HG3:Hid (W1.grownBy (W3.setCell ⟨w.heap.size+1,x,none⟩ (.bool true)) (some (w.heap.size+1))):=grown_trans hgr hst.2
      have HX:Hid (1<=nx C x/\nx C x<=2*C.length):=HNX.out x hx1 hx2
      clear hst hsd hown hgr hbl
      go_wp2_with (first
       |(at_builtin;refine wpList_append_own _ rfl _ _ 53 rfl W1.heap.size 3 i0 (.int .i64 0) 1 8 Tryz.underlying53 hi hz0 hz1 hz2 rfl (by decide) _ _ _ rfl (HOW.out.alloc _) ⟨W3.heap.size,0,none⟩ 1 1 [.int .i64 (x:Nat)] rfl rfl (by rw[<-hs3];exact new_cell1 _ _ _) (int_one _) (by unfold maxLen;omega) (by omega) (by simp;omega) ?_;intro v8 w8 hown8 hg8 _;refine Hid.out ?_))
      refine Lib.hid ?_
      have HG8:Hid (((W3.setCell ⟨w.heap.size+1,x,none⟩ (.bool true)).alloc (.cells #[.int .i64 (x:Nat)] 3)).grownBy w8 (Value.slice a6 acc.length c6).ownBlock):=hg8
      have HO8:Hid (w8.ownsRow W1.heap.size 3 1 v8 (acc++[x]).length (nats (acc++[x]))):=(by rw[List.length_append,nats_app];exact hown8:w8.ownsRow W1.heap.size 3 1 v8 (acc++[x]).length (nats (acc++[x])))
      have hA:=HOW.out.alloc (.cells #[.int .i64 (x:Nat)] 3)
      have hS:=HSD.out.alloc (.cells #[.int .i64 (x:Nat)] 3)
      have HS8:Hid (w8.ownsRow (w.heap.size+1) 4 1 (.slice (some ⟨w.heap.size+1,0,none⟩) (2*C.length+1) (2*C.length+1)) (2*C.length+1) (bools (seen.set x true))):=hS.kept HG8.out (own_ne hS hA (by decide))
      have HG18:Hid (W1.grownBy w8 (some (w.heap.size+1))):=grown_new (grown_trans HG3.out (grown_none (World.grownBy_alloc _ _ none))) HG8.out (fun q hq=>(hA.lt q hq).1)
      have HB8:Hid (Below w.heap.size w w8):=(HB3.out.alloc (by rw[hs3];omega) _).grown HG8.out (by simp;omega) (fun q hq=>by have:=(hA.lt q hq).1;omega)
      have HX8:Hid (w8.heap[w.heap.size]?=some (.cells #[.slice a C.length cap,.int .i64 loops,.slice (some ⟨gF,0,none⟩) (2*C.length+1) cF,.slice (some ⟨gT,0,none⟩) (2*C.length+1) cT] 40 (0,0))):=(HG18.out.block _ (by omega) (fun e=>by have:=Option.some.inj e;omega)).trans HK.out.box
      have HD8:Hid (Dr w8 a cap C gF gT):=HD.out.on HB8.out
      clear hA hS hg8 hown8 e0 z0
      go_wp2_with (go_at_call 41;refine(ahead_any a cap C loops gF cF gT cT x _ HM.out hx1 hx2 HD8.out).mono ?_;rintro e9 w9 ⟨rfl,hb9⟩;refine Hid.out ?_)
      refine Lib.hid ?_
      have HB9:Hid (Below w8.heap.size w8 w9):=hb9
      clear hb9
      obtain⟨hn1,hn2⟩:=HX.out
      obtain⟨y,hy⟩:∃ y,nx C x=y:=⟨_,rfl⟩
      rw[hy]at hn1 hn2 HWK ⊢
      have hg9:w8.grownBy w9 none:=grown_below HB9.out none
      go_wp2
      go_roundw
      case rel=>exact⟨f - 1,seen.set x true,y,acc++[x],rfl,hn1,hn2,(hwk.out.trans HWK.out.1:walkF (nx C) (2*C.length+1) (walksTo (nx C) (2*C.length) i).2 j0 []=_),HWK.out.2,by simpa using hsl,(by have:=hac.out;have:=HUS.out;rw[List.length_append];simp only[List.length_cons,List.length_nil];omega:(acc++[x]).length+unseen (seen.set x true)<=2*C.length+1),own_any HO8.out hg9,own_any HS8.out hg9,grown_new HG18.out hg9 (fun q hq=>by cases hq),HB8.out.trans (HB9.out.mono HB8.out.size)⟩
      case measure=>
       obtain⟨a8,c8,e8⟩:=own_capS HO8.out
       rw[e8]
       simp only[lenOf,List.length_append,List.length_cons,List.length_nil]
       omega
     |true=>
      rw[hbit]at e0
      have HWT:Hid (walksTo (nx C) (2*C.length) (i+1)=(if acc=[] then(walksTo (nx C) (2*C.length) i).1 else(walksTo (nx C) (2*C.length) i).1++[acc],seen)):=walksTo_next (by rw[<-hji.out];exact hwk.out.trans (walkF_seen hbit))
      have hlz:zs.length<=i:=by rw[HK.out.len];exact HCT.out
      have HX3:Hid (W3.heap[w.heap.size]?=some (.cells #[.slice a C.length cap,.int .i64 loops,.slice (some ⟨gF,0,none⟩) (2*C.length+1) cF,.slice (some ⟨gT,0,none⟩) (2*C.length+1) cT] 40 (0,0))):=(hgr.block _ (by omega) (fun e=>by have:=Option.some.inj e;omega)).trans HK.out.box
      have hrows:=HK.out.rows.kept hgr (own_ne HK.out.rows HK.out.seen (by decide))
      have HEA:Hid (∀ j,j<zs.length->W3.ownsRow (w.heap.size+1) 3 1 (zs.getD j (.bool false)) ((walksTo (nx C) (2*C.length) i).1.getD j []).length (nats ((walksTo (nx C) (2*C.length) i).1.getD j []))):=fun j hj=>(HK.out.each j hj).kept hgr (own_ne (HK.out.each j hj) HK.out.seen (by decide))
      have hlen:=HK.out.len
      by_cases hz:acc=[]
      · subst hz
        rw[if_pos rfl]at HWT
        go_wp2
        go_roundw
        case rel=>
         refine⟨i+1,j0+1,zs,by omega,(by have:=hji.out;omega:j0+1=i+1+1),by go_num,?_⟩
         rw[HWT.out]
         exact⟨HX3.out,hsd,hlen,hrows,HEA.out,hbl⟩
        case measure=>simp only[intOf];omega
      · rw[if_neg hz]at HWT
        have hpos:0<acc.length:=List.length_pos_iff.2 hz
        have HON:Hid (∀ u∈[Value.slice a6 acc.length c6],u.oneCell'=true):=own_oneS hown
        have HRW:Hid (W3.ownsRow (w.heap.size+1) 53 1 _ zs.length zs):=hrows
        have HOW:Hid (W3.ownsRow (w.heap.size+1) 3 1 (.slice a6 acc.length c6) acc.length (nats acc)):=own_low hown (by omega)
        have HSD:Hid (W3.ownsRow (w.heap.size+1) 4 1 (.slice (some ⟨w.heap.size+1,0,none⟩) (2*C.length+1) (2*C.length+1)) (2*C.length+1) (bools seen)):=hsd
        have HBL:Hid (Below w.heap.size w W3):=hbl
        clear hrows hown hsd hbl
        have hdp:decide (0<(acc.length:Int))=true:=by simp;omega
        have hdp2:decide (0<acc.length)=true:=by simp;omega
        go_wp2_with (first
         |(at_builtin;refine wpList_append_own _ rfl _ _ 43 rfl (w.heap.size+1) 53 i1 (.slice none 0 0) 1 24 Tryz.underlying43 hj hy0 hy1 hy2 rfl (by decide) _ _ _ rfl (HRW.out.alloc _) ⟨W3.heap.size,0,none⟩ 1 1 [Value.slice a6 acc.length c6] rfl rfl (new_cell1 _ _ _) HON.out (by unfold maxLen;omega) (by omega) (by simp;omega) ?_;intro v8 w8 hown8 hg8 _;go_frame))
        go_roundw
        case rel=>
         have hR:=HRW.out.alloc (.cells #[Value.slice a6 acc.length c6] 53)
         have hO:=HOW.out.alloc (.cells #[Value.slice a6 acc.length c6] 53)
         have hS:=HSD.out.alloc (.cells #[Value.slice a6 acc.length c6] 53)
         refine⟨i+1,j0+1,zs++[Value.slice a6 acc.length c6],by omega,(by have:=hji.out;omega:j0+1=i+1+1),by go_num,?_⟩
         rw[HWT.out]
         refine⟨?_,hS.kept hg8 (own_ne hS hR (by decide)),by simp[hlen],by rw[List.length_append];exact hown8,fun j hjl=>?_,(HBL.out.alloc (by omega) _).grown hg8 (by simp;omega) (fun q hq=>by have:=(hR.lt q hq).1;omega)⟩
         · refine(hg8.block _ (by simp;omega) (fun e=>by have:=(hR.lt _ e.symm).1;omega)).trans (alloc_old HX3.out)
         · by_cases hjk:j<zs.length
           · have e1:((walksTo (nx C) (2*C.length) i).1++[acc]).getD j []=(walksTo (nx C) (2*C.length) i).1.getD j []:=by rw[List.getD_eq_getElem?_getD,List.getD_eq_getElem?_getD,List.getElem?_append_left (by omega)]
             rw[getD_left zs _ j hjk,e1]
             have h1:=(HEA.out j hjk).alloc (.cells #[Value.slice a6 acc.length c6] 53)
             exact h1.kept hg8 (own_ne h1 hR (by decide))
           · have ej:j=zs.length:=by simp at hjl;omega
             have e1:((walksTo (nx C) (2*C.length) i).1++[acc]).getD j []=acc:=by rw[ej,hlen];simp[List.getD]
             have e2:(zs++[Value.slice a6 acc.length c6]).getD j (.bool false)=Value.slice a6 acc.length c6:=by rw[ej];exact getD_last zs _
             rw[e1,e2]
             exact hO.kept hg8 (own_ne hO hR (by decide))
        case measure=>simp only[intOf];omega
  · obtain rfl:i=2*C.length:=by omega
    obtain rfl:j0=2*C.length+1:=hji.out
    go_wp2
    go_ret
    exact⟨_,rfl,⟨zs,by rw[HWM.out];exact HK.out.len,own_low HK.out.rows (by omega),fun j hj=>by rw[HWM.out]at hj ⊢;exact own_low (HK.out.each j (by rw[HK.out.len];exact hj)) (by omega)⟩,HK.out.bel⟩
theorem walks_any (a : Option Addr) (cap : Nat) (C : List Cr) (loops : Int) (gF cF gT cT : Nat) (w : World) (hm : mayD C loops = true) (hD : Dr w a cap C gF gT) :
    Calls Tryz.prog 15 #[drV a cap C loops gF cF gT cT] w fun e w'=>∃ v,e=.returned v/\NatsOwn w' w.heap.size v (walksM C)/\Below w.heap.size w w':=by
 have hmf:∀ (fn:Fn) (first cap:Array Value) (w:World),(Instr.makeFunc fn first cap).run Tryz.prog w=.ok (.func fn first cap) w:=fun _ _ _ _=>rfl
 have HM:Hid (mayD C loops=true):=hm
 have HB0:Hid (Below w.heap.size w (w.alloc (.cells #[.slice a C.length cap,.int .i64 loops,.slice (some ⟨gF,0,none⟩) (2*C.length+1) cF,.slice (some ⟨gT,0,none⟩) (2*C.length+1) cT] 40))):=(Below.refl _ _).alloc (Nat.le_refl _) _
 have HD:Hid (Dr (w.alloc (.cells #[.slice a C.length cap,.int .i64 loops,.slice (some ⟨gF,0,none⟩) (2*C.length+1) cF,.slice (some ⟨gT,0,none⟩) (2*C.length+1) cT] 40)) a cap C gF gT):=hD.on HB0.out
 clear hm hD
 unfold drV
 go_enter Tryz.func15,Tryz.ntmps15
 go_wp2_with (go_at_call 40;refine(arcRings_ahead a cap C loops gF cF gT cT _ HM.out HD.out).mono ?_;rintro e9 w4 ⟨v,rfl,hn4,hb4⟩)
 go_ret
 exact⟨v,rfl,hn4.low (by simp),HB0.out.trans (hb4.mono (by simp))⟩
end Go.Proofs.YtnemnpcbhfedcaaGreatDoor
/- The walks of ref.DiagramOf and gauss.Strands; rows that are the same. -/
namespace Go.Proofs.YtnemnpcbhfedcaaGreatDoor
open Go.RowKit
def crossCells (C:List Cr):List Value:=C.flatMap fun x=>[.int .i64 x.a,.int .i64 x.b,.int .i64 x.c,.int .i64 x.d,.bool x.plus]
theorem cells_get (C:List Cr) (i:Nat) (hi:i<C.length):(crossCells C)[i*5]?=some (.int .i64 (C.getD i Cr.none).a)/\(crossCells C)[i*5+1]?=some (.int .i64 (C.getD i Cr.none).b)/\(crossCells C)[i*5+2]?=some (.int .i64 (C.getD i Cr.none).c)/\(crossCells C)[i*5+3]?=some (.int .i64 (C.getD i Cr.none).d)/\(crossCells C)[i*5+4]?=some (.bool (C.getD i Cr.none).plus):=by
 induction C generalizing i with
 |nil=>simp at hi
 |cons t l ih=>
  have e:crossCells (t::l)=.int .i64 t.a::.int .i64 t.b::.int .i64 t.c::.int .i64 t.d::.bool t.plus::crossCells l:=rfl
  cases i with
  |zero=>rw[e];exact⟨rfl,rfl,rfl,rfl,rfl⟩
  |succ i=>
   have:=ih i (by simpa using hi)
   have e1:(i+1)*5=i*5+1+1+1+1+1:=by omega
   rw[e,e1]
   exact this
theorem cells_one (C:List Cr):∀ u∈crossCells C,u.oneCell'=true:=by
 intro u hu
 simp only[crossCells,List.mem_flatMap]at hu
 obtain⟨t,_,ht⟩:=hu
 simp at ht
 rcases ht with rfl|rfl|rfl|rfl|rfl<;>rfl
theorem crs_own {w:World} {B e:Nat} {v:Value} {C:List Cr} (h:w.ownsRow B e 5 v C.length (crossCells C)) (hn:C.length<=maxLen):Crs w w.heap.size v C:=by
 have h0:=h
 rcases h.2 with⟨rfl,h1⟩|⟨g,cap,cur,rfl,_,_,_⟩
 · exact⟨none,0,by rw[h1],hn,fun hp=>by omega⟩
 · refine⟨some ⟨g,0,none⟩,cap,rfl,hn,fun _=>⟨g,0,rfl,(h0.lt g rfl).2,fun i hi=>?_⟩⟩
   have g0:=cells_get C i hi
   rw[Nat.zero_add]
   exact⟨(h0.cellAt (i*5) (by omega)).trans g0.1,(h0.cellAt (i*5+1) (by omega)).trans g0.2.1,(h0.cellAt (i*5+2) (by omega)).trans g0.2.2.1,(h0.cellAt (i*5+3) (by omega)).trans g0.2.2.2.1,(h0.cellAt (i*5+4) (by omega)).trans g0.2.2.2.2⟩
def CrsW (w:World) (B:Nat) (v:Value) (C:List Cr):Prop:=
 (v=.slice none 0 0/\C=[])∨(∃ ad cap,v=.slice (some ad) 0 cap/\C=[])∨∃ b off cap,v=.slice (some ⟨b,off,none⟩) C.length cap/\b<B/\CrossAt w b off C
theorem CrsW.crs {w:World} {B:Nat} {v:Value} {C:List Cr} (h:CrsW w B v C) (hn:C.length<=maxLen):Crs w B v C:=by
 rcases h with⟨rfl,rfl⟩|⟨ad,cap,rfl,rfl⟩|⟨b,off,cap,rfl,hlt,hC⟩
 · exact⟨none,0,rfl,hn,fun hp=>by simp at hp⟩
 · exact⟨some ad,cap,rfl,hn,fun hp=>by simp at hp⟩
 · exact⟨some ⟨b,off,none⟩,cap,rfl,hn,fun _=>⟨b,off,rfl,hlt,hC⟩⟩
theorem CrsW.up {w w':World} {v:Value} {C:List Cr} (h:CrsW w w.heap.size v C) (hb:Below w.heap.size w w'):CrsW w' w'.heap.size v C:=by
 rcases h with h|h|⟨b,off,cap,hv,hlt,hC⟩
 · exact Or.inl h
 · exact Or.inr (Or.inl h)
 · exact Or.inr (Or.inr ⟨b,off,cap,hv,Nat.lt_of_lt_of_le hlt hb.size,hC.on hb hlt⟩)
theorem infoCross:(Tryz.prog.info? 51).map (fun i=>(i.zero,i.size,i.bytes))=some (some (.agg #[.int .i64 0,.int .i64 0,.int .i64 0,.int .i64 0,.bool false]),5,40):=by kernel_rfl
theorem own_terms {w:World} {B e n g c:Nat} {l:List (Int×Int)} (h:w.ownsRow B e 2 (.slice (some ⟨g,0,none⟩) n c) n (flat l)) (hl:l.length=n):TermsAt w g 0 l:=by
 intro i hi
 have g0:=flat_get l i hi
 rw[Nat.zero_add]
 exact⟨(h.cellAt (i*2) (by omega)).trans g0.1,(h.cellAt (i*2+1) (by omega)).trans g0.2⟩
theorem Drawn.dr {w w' : World} {a : Option Addr} {cap : Nat} {loops : Int} {C : List Cr} {D : Value} (h : Drawn w w' w.heap.size (.slice a C.length cap) loops C D) (hm : mayD C loops = true) (hb : Below w.heap.size w w') (hC : Crs w w.heap.size (.slice a C.length cap) C) :
    ∃ gF cF gT cT,D=drV a cap C loops gF cF gT cT/\Dr w' a cap C gF gT:=by
 obtain⟨gF,cF,gT,cT,rfl,h1,h2⟩:=h.yes hm
 exact⟨gF,cF,gT,cT,rfl,hC.up hb,(h1.lt gF rfl).2,(h2.lt gT rfl).2,own_terms h1 (ends_length _ _ _ _),own_terms h2 (ends_length _ _ _ _)⟩
end Go.Proofs.YtnemnpcbhfedcaaGreatDoor
/- Plain mathematics of Alexander's table: polynomials of two terms, and the places of a row. -/
namespace Go.Proofs.YtnemnpcbhfedcaaGreatDoor
open Go.RowKit
def aPol (x y:Int):List (Int×Int):=(if x=0 then [] else [(0,x)])++(if y=0 then [] else [(1,y)])
def aFun (x y:Int) (e:Int):Int:=if e=0 then x else if e=1 then y else 0
theorem canon_aPol (x y:Int):Poly.Canon (aPol x y) (aFun x y):=by
 unfold aPol
 constructor
 · by_cases hx:x=0<;>by_cases hy:y=0<;>simp[hx,hy]
 · intro e c
   by_cases hx:x=0<;>by_cases hy:y=0<;>by_cases h0:e=0<;>by_cases h1:e=1<;>simp[aFun,hx,hy,h0,h1]<;>omega
theorem aPol_len (x y:Int):(aPol x y).length<=2:=by
 unfold aPol
 by_cases hx:x=0<;>by_cases hy:y=0<;>simp[hx,hy]
theorem aPol_may (x y:Int) (hx : -100<=x/\x<=100) (hy : -100<=y/\y<=100):Poly.mayB (aPol x y)=true:=by
 refine(Poly.may_iff _).2 ⟨Nat.le_trans (aPol_len x y) (by decide),fun i hi=>?_⟩
 rw[Poly.okB_iff]
 unfold aPol at hi ⊢
 by_cases h0:x=0<;>by_cases h1:y=0<;>simp only[h0,h1,if_true,if_false,List.nil_append,List.append_nil,List.length_nil,List.length_cons,List.singleton_append]at hi ⊢
 · omega
 · obtain rfl:i=0:=by omega
   simp
   omega
 · obtain rfl:i=0:=by omega
   simp
   omega
 · have:i=0∨i=1:=by omega
   rcases this with rfl|rfl<;>simp<;>omega
theorem coef_aPol (x y e:Int):Poly.coefL (aPol x y) e=aFun x y e:=by
 unfold aPol aFun
 by_cases hx:x=0<;>by_cases hy:y=0<;>by_cases h0:e=0<;>by_cases h1:e=1<;>simp[Poly.coefL,hx,hy,h0,h1]<;>omega
theorem aFun_add (x y dx dy e:Int):aFun x y e+aFun dx dy e=aFun (x+dx) (y+dy) e:=by
 unfold aFun
 by_cases h0:e=0
 · simp[h0]
 · by_cases h1:e=1
   · simp[h1]
   · simp[h0,h1]
theorem aPol_sum {r:List (Int×Int)} {x y dx dy:Int} (h:Poly.Canon r (fun e=>Poly.coefL (aPol x y) e+Poly.coefL (aPol dx dy) e)):r=aPol (x+dx) (y+dy):=
 Poly.canon_unique (Poly.canon_congr h fun e=>by rw[coef_aPol,coef_aPol,aFun_add]) (canon_aPol _ _)
def addFa (F:Nat->Int×Int) (p:Nat) (dx dy:Int):Nat->Int×Int:=fun j=>if j=p then((F j).1+dx,(F j).2+dy) else F j
def zeroF:Nat->Int×Int:=fun _=>(0,0)
def rowF (o i v:Nat):Nat->Int×Int:=addFa (addFa (addFa zeroF o 1 0) i 0 (-1)) v (-1) 1
def inC (C:List Cr) (c:Cr):Nat:=if c.plus=true then ovM C c.a.toNat else ovM C c.c.toNat
def outC' (C:List Cr) (c:Cr):Nat:=if c.plus=true then ovM C c.c.toNat else ovM C c.a.toNat
def alF (C:List Cr) (k:Nat):Nat->Int×Int:=rowF (outC' C (C.getD k Cr.none)) (inC C (C.getD k Cr.none)) (ovM C (C.getD k Cr.none).b.toNat)
def smallF (F:Nat->Int×Int) (b:Int):Prop:=∀ j,-b<=(F j).1/\(F j).1<=b /\ -b<=(F j).2/\(F j).2<=b
theorem small_zero:smallF zeroF 0:=fun _=>by simp[zeroF]
theorem small_add {F:Nat->Int×Int} {b:Int} (h:smallF F b) (p:Nat) {dx dy:Int} (hx : -1<=dx/\dx<=1) (hy : -1<=dy/\dy<=1):smallF (addFa F p dx dy) (b+1):=fun j=>by
 have:=h j
 unfold addFa
 by_cases e:j=p
 · rw[if_pos e];simp only;omega
 · rw[if_neg e];omega
def valsL (m:Nat) (f:Nat->Value):List Value:=(List.range m).map f
theorem valsL_len (m:Nat) (f:Nat->Value):(valsL m f).length=m:=by simp[valsL]
theorem valsL_get (m:Nat) (f:Nat->Value) (i:Nat) (h:i<m):(valsL m f)[i]?=some (f i):=by simp[valsL,h]
theorem valsL_set (m:Nat) (f g:Nat->Value) (i:Nat) (x:Value) (h:∀ j,j<m->g j=if j=i then x else f j):(valsL m f).set i x=valsL m g:=by
 apply List.ext_getElem?
 intro j
 by_cases hj:j<m
 · rw[valsL_get m g j hj,h j hj,List.getElem?_set]
   by_cases e:i=j
   · subst e;simp[valsL_len,hj]
   · rw[if_neg e,if_neg (fun h=>e h.symm),valsL_get m f j hj]
 · rw[List.getElem?_eq_none (by simp[valsL_len];omega),List.getElem?_eq_none (by simp[valsL_len];omega)]
theorem made_nilsV (n:Nat):(madeCells (Value.slice none 0 0).cells (n*1)).toList=valsL n fun _=>.slice none 0 0:=by
 have e:(Value.slice none 0 0).cells=#[Value.slice none 0 0]:=rfl
 rw[e,toList_madeCells_one,Nat.mul_one]
 apply List.ext_getElem?
 intro j
 by_cases hj:j<n
 · rw[valsL_get _ _ _ hj];simp[hj]
 · rw[List.getElem?_eq_none (by simp;omega),List.getElem?_eq_none (by simp[valsL_len];omega)]
structure PlcAt (B m g:Nat) (vals:Nat->Value) (F:Nat->Int×Int) (wr:World):Prop where
 row:wr.ownsRow B 35 1 (.slice (some ⟨g,0,none⟩) m m) m (valsL m vals)
 each:∀ j,j<m->wr.ownsRow B 62 2 (vals j) (aPol (F j).1 (F j).2).length (Poly.flat (aPol (F j).1 (F j).2))
theorem PlcAt.any {B m g:Nat} {vals:Nat->Value} {F:Nat->Int×Int} {w w':World} (h:PlcAt B m g vals F w) (hg:w.grownBy w' none):PlcAt B m g vals F w':=⟨own_any h.row hg,fun j hj=>own_any (h.each j hj) hg⟩
theorem PlcAt.set {B m g : Nat} {vals : Nat → Value} {F : Nat → Int × Int} {w w' : World} (h : PlcAt B m g vals F w) (hb : Below w.heap.size w w') (hB : B ≤ w.heap.size) (p : Nat) (dx dy : Int) (v : Value)
    (hv:w'.ownsRow w.heap.size 62 2 v (aPol ((F p).1+dx) ((F p).2+dy)).length (Poly.flat (aPol ((F p).1+dx) ((F p).2+dy)))):PlcAt B m g (fun j=>if j=p then v else vals j) (addFa F p dx dy) (w'.setCell ⟨g,p,none⟩ v):=by
 have h1:=h.any (grown_below hb none)
 have hst:=h1.row.stored p v
 refine⟨?_,fun j hj=>?_⟩
 · rw[<-valsL_set m vals _ p v fun j _=>rfl]
   exact hst.1
 · unfold addFa
   by_cases e:j=p
   · rw[if_pos e,if_pos e,e]
     exact(own_low hv hB).kept hst.2 (own_ne (own_low hv hB) h1.row (by decide))
   · rw[if_neg e,if_neg e]
     exact(h1.each j hj).kept hst.2 (own_ne (h1.each j hj) h1.row (by decide))
end Go.Proofs.YtnemnpcbhfedcaaGreatDoor
/- Plain mathematics of the bracket: states that tie the same, together; one crossing more; all states. -/
namespace Go.Proofs.YtnemnpcbhfedcaaGreatDoor
def exS (s:Nat):Nat->Int
 |0=>0
 |k+1=>exS s k+(if s / 2 ^ k%2=1 then 1 else -1)
def kyS (C:List Cr) (s k:Nat):List Nat:=tieP (prS (arQ C) s) (2*k)
def wS (C:List Cr) (c0 s k:Nat):Int->Int:=shA (exS s k) (dlN (c0+closP (prS (arQ C) s) (2*k)) oneAb)
def mS (C:List Cr) (c0 k:Nat) (T:List Nat):Int->Int:=fun y=>sumS (2 ^ k) fun s=>if kyS C s k=T then wS C c0 s k y else 0
def t4 (T:List Nat) (p q r s:Nat):List Nat:=tieT (tieT T p q) r s
def c4 (T:List Nat) (p q r s:Nat):Nat:=tieN T p q+tieN (tieT T p q) r s
def tA (C:List Cr) (k:Nat) (T:List Nat):List Nat:=t4 T (arQ C k 0) (arQ C k 1) (arQ C k 2) (arQ C k 3)
def cA (C:List Cr) (k:Nat) (T:List Nat):Nat:=c4 T (arQ C k 0) (arQ C k 1) (arQ C k 2) (arQ C k 3)
def tB (C:List Cr) (k:Nat) (T:List Nat):List Nat:=t4 T (arQ C k 1) (arQ C k 2) (arQ C k 3) (arQ C k 0)
def cB (C:List Cr) (k:Nat) (T:List Nat):Nat:=c4 T (arQ C k 1) (arQ C k 2) (arQ C k 3) (arQ C k 0)
theorem c4_le (T:List Nat) (p q r s:Nat):c4 T p q r s<=2:=by
 unfold c4 tieN;split<;>split<;>omega
theorem ex_low {k s:Nat}:∀ j,j<=k->exS (2 ^ k+s) j=exS s j
 |0,_=>rfl
 |j+1,h=>by
  show exS (2 ^ k+s) j+_=exS s j+_
  rw[ex_low j (by omega),bit_lo (by omega:j<k)]
theorem ky_low (C:List Cr) {k s j:Nat} (h:j<=k):kyS C (2 ^ k+s) j=kyS C s j:=(tie_congr (2*j) fun i hi=>pr_low _ (by omega)).1
theorem clos_low (C:List Cr) {k s j:Nat} (h:j<=k):closP (prS (arQ C) (2 ^ k+s)) (2*j)=closP (prS (arQ C) s) (2*j):=(tie_congr (2*j) fun i hi=>pr_low _ (by omega)).2.1
theorem w_low (C:List Cr) (c0:Nat) {k s j:Nat} (h:j<=k):wS C c0 (2 ^ k+s) j=wS C c0 s j:=by
 unfold wS;rw[ex_low j h,clos_low C h]
theorem ky_next (C:List Cr) (s k:Nat):kyS C s (k+1)=if s / 2 ^ k%2=1 then tA C k (kyS C s k) else tB C k (kyS C s k):=by
 unfold kyS tA tB t4
 rw[show 2*(k+1)=2*k+1+1 by omega]
 show tieT (tieT (tieP _ (2*k)) (prS _ s (2*k)).1 (prS _ s (2*k)).2) (prS _ s (2*k+1)).1 (prS _ s (2*k+1)).2=_
 rw[pr_lo,pr_hi]
 by_cases h:s / 2 ^ k%2=1
 · simp only[if_pos h]
 · simp only[if_neg h]
theorem clos_next (C:List Cr) (s k:Nat):closP (prS (arQ C) s) (2*(k+1))=closP (prS (arQ C) s) (2*k)+if s / 2 ^ k%2=1 then cA C k (kyS C s k) else cB C k (kyS C s k):=by
 unfold kyS cA cB c4
 rw[show 2*(k+1)=2*k+1+1 by omega]
 show closP _ (2*k)+tieN (tieP _ (2*k)) (prS _ s (2*k)).1 (prS _ s (2*k)).2+tieN (tieT (tieP _ (2*k)) (prS _ s (2*k)).1 (prS _ s (2*k)).2) (prS _ s (2*k+1)).1 (prS _ s (2*k+1)).2=_
 rw[pr_lo,pr_hi]
 by_cases h:s / 2 ^ k%2=1
 · simp only[if_pos h];omega
 · simp only[if_neg h];omega
theorem w_next (C:List Cr) (c0 s k:Nat):wS C c0 s (k+1)=if s / 2 ^ k%2=1 then dlN (cA C k (kyS C s k)) (shA 1 (wS C c0 s k)) else dlN (cB C k (kyS C s k)) (shA (-1) (wS C c0 s k)):=by
 unfold wS
 rw[clos_next]
 show shA (exS s k+_) _=_
 by_cases h:s / 2 ^ k%2=1
 · simp only[if_pos h]
   rw[sh_sh,dlN_sh,dlN_add,Int.add_comm 1]
   congr 2;omega
 · simp only[if_neg h]
   rw[sh_sh,dlN_sh,dlN_add,Int.add_comm (-1)]
   congr 2;omega
def undF (C:List Cr) (c0 k:Nat) (U:List Nat) (y:Int) (s:Nat):Int:=
 (if tA C k (kyS C s k)=U then dlN (cA C k (kyS C s k)) (shA 1 (wS C c0 s k)) y else 0)+(if tB C k (kyS C s k)=U then dlN (cB C k (kyS C s k)) (shA (-1) (wS C c0 s k)) y else 0)
def undG (C:List Cr) (c0 k:Nat) (dn:List Nat->Bool) (U:List Nat):Int->Int:=fun y=>sumS (2 ^ k) fun s=>if dn (kyS C s k)=true then undF C c0 k U y s else 0
theorem undG_all (C:List Cr) (c0 k:Nat) (U:List Nat) {dn:List Nat->Bool} (h:∀ s,s<2 ^ k->dn (kyS C s k)=true):undG C c0 k dn U=mS C c0 (k+1) U:=by
 funext y
 unfold mS undG
 rw[sumS_two]
 refine sumS_congr fun s hs=>?_
 rw[if_pos (h s hs)]
 unfold undF
 have b0:¬ s / 2 ^ k%2=1:=by rw[bit_off hs];decide
 have k0:kyS C s (k+1)=tB C k (kyS C s k):=by rw[ky_next,if_neg b0]
 have w0:wS C c0 s (k+1)=dlN (cB C k (kyS C s k)) (shA (-1) (wS C c0 s k)):=by rw[w_next,if_neg b0]
 have k1:kyS C (2 ^ k+s) (k+1)=tA C k (kyS C s k):=by rw[ky_next,if_pos (bit_hi hs),ky_low C (Nat.le_refl k)]
 have w1:wS C c0 (2 ^ k+s) (k+1)=dlN (cA C k (kyS C s k)) (shA 1 (wS C c0 s k)):=by rw[w_next,if_pos (bit_hi hs),ky_low C (Nat.le_refl k),w_low C c0 (Nat.le_refl k)]
 rw[k0,w0,k1,w1]
 omega
theorem dlN_if (c n:Nat) (P:Nat->Prop) [∀ s,Decidable (P s)] (F:Nat->Int->Int):dlN c (fun y=>sumS n fun s=>if P s then F s y else 0)=fun y=>sumS n fun s=>if P s then dlN c (F s) y else 0:=by
 have e:(fun y=>sumS n fun s=>if P s then F s y else 0)=fun y=>sumS n fun s=>(if P s then F s else fun _=>0) y:=by
  funext y;refine sumS_congr fun s _=>?_;split<;>rfl
 have z:∀ c,dlN c (fun _=>0)=fun _=>0:=by
  intro c
  induction c with
  |zero=>rfl
  |succ c ih=>show dlA (dlN c _)=_;rw[ih];rfl
 rw[e,dlN_sum]
 funext y
 refine sumS_congr fun s _=>?_
 by_cases h:P s
 · rw[if_pos h,if_pos h]
 · rw[if_neg h,if_neg h,z]
theorem undG_step (C : List Cr) (c0 k : Nat) (U T : List Nat) {dn dn' : List Nat → Bool} (h0 : dn T = false) (h : ∀ s, dn' (kyS C s k) = true ↔ dn (kyS C s k) = true ∨ kyS C s k = T) (y : Int) :
    undG C c0 k dn' U y=undG C c0 k dn U y+(if tA C k T=U then dlN (cA C k T) (shA 1 (mS C c0 k T)) y else 0)+(if tB C k T=U then dlN (cB C k T) (shA (-1) (mS C c0 k T)) y else 0):=by
 unfold undG
 rw[sumS_more (F:=undF C c0 k U y) (P:=fun s=>dn (kyS C s k)) (Q:=fun s=>decide (kyS C s k=T)) (R:=fun s=>dn' (kyS C s k)) (fun s _=>by rw[h s];simp) (fun s _ e=>by have:=of_decide_eq_true e.2;rw[this,h0]at e;simp at e)]
 rw[Int.add_assoc]
 congr 1
 have hs:∀ e,shA e (mS C c0 k T)=fun y=>sumS (2 ^ k) fun s=>if kyS C s k=T then shA e (wS C c0 s k) y else 0:=fun e=>rfl
 rw[hs,hs,dlN_if,dlN_if]
 by_cases h1:tA C k T=U<;>by_cases h2:tB C k T=U
 · rw[if_pos h1,if_pos h2,<-sumS_add]
   refine sumS_congr fun s _=>?_
   by_cases e:kyS C s k=T
   · unfold undF;rw[e];simp[h1,h2]
   · simp[e]
 · rw[if_pos h1,if_neg h2,Int.add_zero]
   refine sumS_congr fun s _=>?_
   by_cases e:kyS C s k=T
   · unfold undF;rw[e];simp[h1,h2]
   · simp[e]
 · rw[if_neg h1,if_pos h2,Int.zero_add]
   refine sumS_congr fun s _=>?_
   by_cases e:kyS C s k=T
   · unfold undF;rw[e];simp[h1,h2]
   · simp[e]
 · rw[if_neg h1,if_neg h2]
   rw[show(0:Int)+0=sumS (2 ^ k) (fun _=>0) from(sumS_zero _).symm]
   refine sumS_congr fun s _=>?_
   by_cases e:kyS C s k=T
   · unfold undF;rw[e];simp[h1,h2]
   · simp[e]
theorem undG_none (C:List Cr) (c0 k:Nat) (U:List Nat) {dn:List Nat->Bool} (h:∀ s,s<2 ^ k->dn (kyS C s k)=false) (y:Int):undG C c0 k dn U y=0:=by
 unfold undG
 rw[sumS_congr (g:=fun _=>0) fun s hs=>by rw[h s hs];rfl,sumS_zero]
def allG (C:List Cr) (c0 k:Nat) (dn:List Nat->Bool):Int->Int:=fun y=>sumS (2 ^ k) fun s=>if dn (kyS C s k)=true then wS C c0 s k y else 0
def allS (C:List Cr) (c0 k:Nat):Int->Int:=fun y=>sumS (2 ^ k) fun s=>wS C c0 s k y
theorem allG_all (C:List Cr) (c0 k:Nat) {dn:List Nat->Bool} (h:∀ s,s<2 ^ k->dn (kyS C s k)=true):allG C c0 k dn=allS C c0 k:=by
 funext y;exact sumS_congr fun s hs=>by rw[if_pos (h s hs)]
theorem allG_none (C:List Cr) (c0 k:Nat) {dn:List Nat->Bool} (h:∀ s,s<2 ^ k->dn (kyS C s k)=false) (y:Int):allG C c0 k dn y=0:=by
 unfold allG
 rw[sumS_congr (g:=fun _=>0) fun s hs=>by rw[h s hs];rfl,sumS_zero]
theorem allG_step (C:List Cr) (c0 k:Nat) (T:List Nat) {dn dn':List Nat->Bool} (h0:dn T=false) (h:∀ s,dn' (kyS C s k)=true↔dn (kyS C s k)=true∨kyS C s k=T) (y:Int):allG C c0 k dn' y=allG C c0 k dn y+mS C c0 k T y:=by
 unfold allG mS
 rw[sumS_more (F:=fun s=>wS C c0 s k y) (P:=fun s=>dn (kyS C s k)) (Q:=fun s=>decide (kyS C s k=T)) (R:=fun s=>dn' (kyS C s k)) (fun s _=>by rw[h s];simp) (fun s _ e=>by have:=of_decide_eq_true e.2;rw[this,h0]at e;simp at e)]
 congr 1
 exact sumS_congr fun s _=>by simp
theorem clos_le (C:List Cr) (s:Nat):∀ k,closP (prS (arQ C) s) (2*k)<=2*k
 |0=>Nat.le_refl _
 |k+1=>by
  have:=clos_le C s k
  have a:=c4_le (kyS C s k) (arQ C k 0) (arQ C k 1) (arQ C k 2) (arQ C k 3)
  have b:=c4_le (kyS C s k) (arQ C k 1) (arQ C k 2) (arQ C k 3) (arQ C k 0)
  rw[clos_next];unfold cA cB;split<;>omega
theorem w_bd (C:List Cr) (c0 s k:Nat) (y:Int):(wS C c0 s k y).natAbs<=2 ^ (c0+2*k):=by
 have h:=dlN_bd one_bd (c0+closP (prS (arQ C) s) (2*k)) (y-exS s k)
 rw[Nat.mul_one]at h
 exact Nat.le_trans h (Nat.pow_le_pow_right (by omega) (by have:=clos_le C s k;omega))
theorem m_bd (C:List Cr) (c0 k:Nat) (T:List Nat) (y:Int):(mS C c0 k T y).natAbs<=2 ^ (c0+3*k):=by
 refine Nat.le_trans (sumS_bd (H:=2 ^ (c0+2*k)) fun s _=>?_) ?_
 · by_cases e:kyS C s k=T
   · rw[if_pos e];exact w_bd C c0 s k y
   · rw[if_neg e];exact Nat.zero_le _
 · rw[<-Nat.pow_add];exact Nat.pow_le_pow_right (by omega) (by omega)
theorem dlw_bd (C:List Cr) (c0 s k c:Nat) (e:Int) (hc:c<=2) (y:Int):(dlN c (shA e (wS C c0 s k)) y).natAbs<=2 ^ (c0+2*k+2):=by
 have h:=dlN_bd (f:=shA e (wS C c0 s k)) (H:=2 ^ (c0+2*k)) (fun y=>w_bd C c0 s k (y-e)) c y
 rw[<-Nat.pow_add]at h
 exact Nat.le_trans h (Nat.pow_le_pow_right (by omega) (by omega))
theorem undG_bd (C:List Cr) (c0 k:Nat) (dn:List Nat->Bool) (U:List Nat) (y:Int):(undG C c0 k dn U y).natAbs<=2 ^ (c0+3*k+3):=by
 refine Nat.le_trans (sumS_bd (H:=2 ^ (c0+2*k+3)) fun s _=>?_) ?_
 · have a:=dlw_bd C c0 s k (cA C k (kyS C s k)) 1 (c4_le _ _ _ _ _) y
   have b:=dlw_bd C c0 s k (cB C k (kyS C s k)) (-1) (c4_le _ _ _ _ _) y
   have e:2 ^ (c0+2*k+3)=2 ^ (c0+2*k+2)+2 ^ (c0+2*k+2):=by rw[Nat.pow_succ];omega
   unfold undF
   split
   · split<;>split<;>omega
   · exact Nat.zero_le _
 · rw[<-Nat.pow_add];exact Nat.pow_le_pow_right (by omega) (by omega)
theorem allG_bd (C:List Cr) (c0 k:Nat) (dn:List Nat->Bool) (y:Int):(allG C c0 k dn y).natAbs<=2 ^ (c0+3*k):=by
 refine Nat.le_trans (sumS_bd (H:=2 ^ (c0+2*k)) fun s _=>?_) ?_
 · split
   · exact w_bd C c0 s k y
   · exact Nat.zero_le _
 · rw[<-Nat.pow_add];exact Nat.pow_le_pow_right (by omega) (by omega)
def rgS (C:List Cr) (loops s:Nat):Nat:=2*C.length+loops-joinP (prS (arN C) s) (2*C.length)
def brS (C:List Cr) (loops:Nat):Int->Int:=fun y=>sumS (2 ^ C.length) fun s=>shA (exS s C.length) (dlN (rgS C loops s-1) oneAb) y
theorem br_same {C:List Cr} {l:Int} {loops:Nat} (hm:mayD C l=true) (_hl:l=loops) (h12:C.length<=12):allS C (if C.length=0 then loops-1 else loops) C.length=brS C loops:=by
 funext y
 refine sumS_congr fun s _=>?_
 unfold wS rgS
 by_cases h0:C.length=0
 · rw[if_pos h0,h0]
   have e1:loops-1+closP (prS (arQ C) s) (2*0)=loops-1:=rfl
   have e2:2*0+loops-joinP (prS (arN C) s) (2*0)-1=loops-1:=by
    have:joinP (prS (arN C) s) (2*0)=0:=rfl
    rw[this];omega
   rw[e1,e2]
 · rw[if_neg h0]
   have h:=rings_cut hm h12 (by omega) s
   congr 2;congr 1;omega
end Go.Proofs.YtnemnpcbhfedcaaGreatDoor
