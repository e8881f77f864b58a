/- Several texts of the proof, one behind the other. -/
import Derived.Test.YtefooihnoajnlaaH6P
/- A drawing in a world; the walks of Drawing.Above, Drawing.Leaving and Drawing.Ahead. -/
namespace Go.Proofs.Ytefooihnoajnlaa
open Go.RowKit
set_option maxHeartbeats 4000000
set_option maxRecDepth 100000
theorem alloc_at {w:World} {o:Obj} {k:Nat} (h:k=w.heap.size):(w.alloc o).heap[k]?=some o:=by
 rw[h]
 exact Array.getElem?_push_size
theorem alloc_old {w:World} {o p:Obj} {k:Nat} (h:w.heap[k]?=some p):(w.alloc o).heap[k]?=some p:=by
 have hk:k<w.heap.size:=(Array.getElem?_eq_some_iff.1 h).1
 exact((World.grownBy_alloc w o none).block k hk (by simp)).trans h
structure Dr (w:World) (a:Option Addr) (cap:Nat) (C:List Cr) (gF gT:Nat):Prop where
 crs:Crs w w.heap.size (.slice a C.length cap) C
 ltF:gF<w.heap.size
 ltT:gT<w.heap.size
 from_:TermsAt w gF 0 (ends C false C.length 0)
 to:TermsAt w gT 0 (ends C true C.length 0)
theorem Crs.on {w w':World} {B:Nat} {v:Value} {C:List Cr} (h:Crs w B v C) (hb:Below B w w'):Crs w' B v C:=by
 obtain⟨a,cap,rfl,hn,g⟩:=h
 refine⟨a,cap,rfl,hn,fun h0=>?_⟩
 obtain⟨b,off,rfl,hlt,hC⟩:=g h0
 exact⟨b,off,rfl,hlt,hC.on hb hlt⟩
theorem Crs.mono {w:World} {B B':Nat} {v:Value} {C:List Cr} (h:Crs w B v C) (hB:B<=B'):Crs w B' v C:=by
 obtain⟨a,cap,rfl,hn,g⟩:=h
 refine⟨a,cap,rfl,hn,fun h0=>?_⟩
 obtain⟨b,off,rfl,hlt,hC⟩:=g h0
 exact⟨b,off,rfl,Nat.lt_of_lt_of_le hlt hB,hC⟩
theorem Crs.up {w w':World} {v:Value} {C:List Cr} (h:Crs w w.heap.size v C) (hb:Below w.heap.size w w'):Crs w' w'.heap.size v C:=(h.on hb).mono hb.size
theorem Dr.on {w w':World} {a:Option Addr} {cap:Nat} {C:List Cr} {gF gT:Nat} (h:Dr w a cap C gF gT) (hb:Below w.heap.size w w'):Dr w' a cap C gF gT:=
 ⟨h.crs.up hb,Nat.lt_of_lt_of_le h.ltF hb.size,Nat.lt_of_lt_of_le h.ltT hb.size,h.from_.on hb h.ltF,h.to.on hb h.ltT⟩
theorem Dr.cross {w:World} {a:Option Addr} {cap:Nat} {C:List Cr} {gF gT:Nat} (h:Dr w a cap C gF gT) (hp:0<C.length):∃ b off,a=some ⟨b,off,none⟩/\b<w.heap.size/\CrossAt w b off C:=by
 obtain⟨a',cap',e,_,g⟩:=h.crs
 injection e with e1 e2 e3
 obtain⟨b,off,h1,h2,h3⟩:=g hp
 exact⟨b,off,by rw[e1,h1],h2,h3⟩
theorem Dr.toAt {w : World} {a : Option Addr} {cap : Nat} {C : List Cr} {gF gT : Nat} {loops : Int} (h : Dr w a cap C gF gT) (hm : mayD C loops = true) (x : Nat) (h1 : 1 ≤ x) (h2 : x ≤ 2 * C.length) :
    w.cell? ⟨gT,x*2,none⟩=some (.int .i64 (toC C x:Nat))/\w.cell? ⟨gT,x*2+1,none⟩=some (.int .i64 (toS C x:Nat)):=by
 have hT:=h.to x (by rw[ends_length];omega)
 rw[ends_at C true C.length 0 x h1 h2,Nat.zero_add]at hT
 have e:endAh C x true C.length 0=endTo C x true C.length:=rfl
 rw[e,(to_may hm x h1 h2).1]at hT
 exact hT
def drV (a:Option Addr) (cap:Nat) (C:List Cr) (loops:Int) (gF cF gT cT:Nat):Value:=.agg #[.slice a C.length cap,.int .i64 loops,.slice (some ⟨gF,0,none⟩) (2*C.length+1) cF,.slice (some ⟨gT,0,none⟩) (2*C.length+1) cT]
theorem across_any (i : Int) (k : Nat) (w : World) (hk : k < 4) :
    Calls Try.prog 90 #[.agg #[.int .i64 i,.int .i64 k]] w fun e w'=>e=.returned (.agg #[.int .i64 i,.int .i64 ((k+2)%4:Nat)])/\Below w.heap.size w w':=by
 obtain⟨k2,hk2⟩:∃ k2:Nat,k2=(k+2)%4:=⟨_,rfl⟩
 have e1:IntKind.i64.wrap ((k:Int)+2)=(k:Int)+2:=IntWalk.i64_in _ (by omega)
 have e2:((k:Int)+2).tmod 4=(k2:Int):=by rw[Int.tmod_eq_emod_of_nonneg (by omega)];omega
 rw[<-hk2]
 clear hk2
 have hB:Below w.heap.size w ((w.alloc (.cells #[.int .i64 i,.int .i64 k] 93)).alloc (.cells #[.int .i64 i,.int .i64 k2] 93)):=below2 _ _ _
 have hG:((w.alloc (.cells #[.int .i64 i,.int .i64 k] 93)).alloc (.cells #[.int .i64 i,.int .i64 k2] 93)).heap[w.heap.size+1]?=some (.cells #[.int .i64 i,.int .i64 k2] 93 (0,0)):=alloc_at (by simp)
 have x0:=block_cell (i:=0) (v:=.int .i64 i) hG rfl
 have x1:=block_cell (i:=1) (v:=.int .i64 k2) hG rfl
 have HB:Hid (Below w.heap.size w ((w.alloc (.cells #[.int .i64 i,.int .i64 k] 93)).alloc (.cells #[.int .i64 i,.int .i64 k2] 93))):=hB
 clear hB hG
 go_enter Try.func90,Try.ntmps90
 go_wp2
 exact bodyPost_ret (v:=.agg #[.int .i64 i,.int .i64 k2]) (by simp[results,Try.results90,go_sem,x0,x1]) rfl ⟨rfl,HB.out⟩
theorem spotAbove_any (i : Int) (k : Nat) (w : World) (hk : k < 4) :
    Calls Try.prog 88 #[.agg #[.int .i64 i,.int .i64 k]] w fun e w'=>e=.returned (.bool (decide (k%2=1)))/\Below w.heap.size w w':=by
 go_enter Try.func88,Try.ntmps88
 go_wp2
 · go_ret
   have hk1:k=1:=by omega
   subst hk1
   exact⟨rfl,(Below.refl _ _).alloc (Nat.le_refl _) _⟩
 · go_ret
   refine⟨?_,(Below.refl _ _).alloc (Nat.le_refl _) _⟩
   have hk5:k=0∨k=1∨k=2∨k=3:=by omega
   rcases hk5 with rfl|rfl|rfl|rfl<;>rfl
theorem above_any (a : Option Addr) (cap : Nat) (C : List Cr) (loops : Int) (gF cF gT cT : Nat) (x : Nat) (w : World) (hm : mayD C loops = true) (h1 : 1 ≤ x) (h2 : x ≤ 2 * C.length) (hD : Dr w a cap C gF gT) :
    Calls Try.prog 58 #[drV a cap C loops gF cF gT cT,.int .i64 x] w fun e w'=>e=.returned (.bool (decide (toS C x≠0)))/\Below w.heap.size w w':=by
 unfold drV
 have hT:=hD.toAt hm x h1 h2
 have c0:=hT.1
 have c1:=hT.2
 have hlt:=hD.ltT
 have hk4:=(to_may hm x h1 h2).2.2.1
 have hov:=toS_over hm x h1 h2
 clear hT hD
 generalize toS C x=k at c1 hk4 hov
 generalize toC C x=i at c0
 have hd:decide (k%2=1)=decide (k≠0):=decide_eq_decide.2 (by omega)
 rw[<-hd]
 clear hov hd
 have hx:x<2*C.length+1:=by omega
 go_enter Try.func58,Try.ntmps58
 go_wp2_with (go_at_call 88;refine(spotAbove_any i k _ hk4).mono ?_;rintro e9 w4 ⟨rfl,hb4⟩)
 go_ret
 exact⟨rfl,((Below.refl _ _).alloc (Nat.le_refl _) _).trans (hb4.mono (by simp))⟩
theorem leaving_any (b off cap : Nat) (C : List Cr) (loops : Int) (vF vT : Value) (i k : Nat) (w : World) (hi : i < C.length) (hk : k < 4) (hbw : b < w.heap.size) (hC : CrossAt w b off C) :
    Calls Try.prog 89 #[.agg #[.slice (some ⟨b,off,none⟩) C.length cap,.int .i64 loops,vF,vT],.agg #[.int .i64 i,.int .i64 k]] w fun e w'=>e=.returned (.agg #[.int .i64 ((C.getD i Cr.none).arc k),.bool ((C.getD i Cr.none).comes k)])/\Below w.heap.size w w':=by
 obtain⟨c0,c1,c2,c3,c4⟩:=hC i hi
 clear hC
 generalize C.getD i Cr.none=x at c0 c1 c2 c3 c4
 have hB3:Below w.heap.size w (((w.alloc (.cells #[.slice (some ⟨b,off,none⟩) C.length cap,.int .i64 loops,vF,vT] 41)).alloc (.cells #[.int .i64 i,.int .i64 k] 93)).alloc (.cells #[.int .i64 0,.bool false] 107)):=below3 _ _ _ _
 have e0:=bcell hB3 hbw c0
 have e1:=bcell hB3 hbw c1
 have e2:=bcell hB3 hbw c2
 have e3:=bcell hB3 hbw c3
 have e4:=bcell hB3 hbw c4
 clear hB3 c0 c1 c2 c3 c4
 go_enter Try.func89,Try.ntmps89
 go_wp2
 clear e0 e1 e2 e3 e4
 obtain⟨W0,hW0⟩:∃ W0,W0=(((w.alloc (.cells #[.slice (some ⟨b,off,none⟩) C.length cap,.int .i64 loops,vF,vT] 41)).alloc (.cells #[.int .i64 i,.int .i64 k] 93)).alloc (.cells #[.int .i64 0,.bool false] 107)).alloc (.cells #[.int .i64 x.a,.int .i64 x.b,.int .i64 x.c,.int .i64 x.d,.bool x.plus] 60):=⟨_,rfl⟩
 rw[<-hW0]
 have hs0:W0.heap.size=w.heap.size+4:=by rw[hW0];simp
 have HB0:Hid (Below w.heap.size w W0):=(by rw[hW0];exact(below3 _ _ _ _).alloc (by simp;omega) _:Below w.heap.size w W0)
 have HT1:Hid (W0.heap[w.heap.size+1]?=some (.cells #[.int .i64 i,.int .i64 k] 93 (0,0))):=(by rw[hW0];exact alloc_old (alloc_old (alloc_at (by simp))):W0.heap[w.heap.size+1]?=some (.cells #[.int .i64 i,.int .i64 k] 93 (0,0)))
 have HT2:Hid (W0.heap[w.heap.size+1+1]?=some (.cells #[.int .i64 0,.bool false] 107 (0,0))):=(by rw[hW0];exact alloc_old (alloc_at (by simp)):W0.heap[w.heap.size+1+1]?=some (.cells #[.int .i64 0,.bool false] 107 (0,0)))
 have HT3:Hid (W0.heap[w.heap.size+1+1+1]?=some (.cells #[.int .i64 x.a,.int .i64 x.b,.int .i64 x.c,.int .i64 x.d,.bool x.plus] 60 (0,0))):=(by rw[hW0];exact alloc_at (by simp):W0.heap[w.heap.size+1+1+1]?=some (.cells #[.int .i64 x.a,.int .i64 x.b,.int .i64 x.c,.int .i64 x.d,.bool x.plus] 60 (0,0)))
 clear hW0
 have HF:Hid (∀ w',Below W0.heap.size W0 w'->w'.cell? ⟨w.heap.size+1+1+1,0,none⟩=some (.int .i64 x.a)/\w'.cell? ⟨w.heap.size+1+1+1,1,none⟩=some (.int .i64 x.b)/\w'.cell? ⟨w.heap.size+1+1+1,2,none⟩=some (.int .i64 x.c)/\w'.cell? ⟨w.heap.size+1+1+1,3,none⟩=some (.int .i64 x.d)/\w'.cell? ⟨w.heap.size+1+1+1,4,none⟩=some (.bool x.plus)/\w'.cell? ⟨w.heap.size+1,1,none⟩=some (.int .i64 k)):=fun w' hb=>by
  have g3:=(hb.block _ (by omega)).trans HT3.out
  have g1:=(hb.block _ (by omega)).trans HT1.out
  exact⟨block_cell g3 rfl,block_cell g3 rfl,block_cell g3 rfl,block_cell g3 rfl,block_cell g3 rfl,block_cell g1 rfl⟩
 have HFS:Hid (∀ wX u v,Below W0.heap.size W0 wX->(fun w'=>w'.cell? ⟨w.heap.size+1+1+1,0,none⟩=some (.int .i64 x.a)/\w'.cell? ⟨w.heap.size+1+1+1,1,none⟩=some (.int .i64 x.b)/\w'.cell? ⟨w.heap.size+1+1+1,2,none⟩=some (.int .i64 x.c)/\w'.cell? ⟨w.heap.size+1+1+1,3,none⟩=some (.int .i64 x.d)/\w'.cell? ⟨w.heap.size+1+1+1,4,none⟩=some (.bool x.plus)/\w'.cell? ⟨w.heap.size+1,1,none⟩=some (.int .i64 k)) (st2 wX (w.heap.size+1+1) 0 u v)):=fun wX u v hb=>by
  have hg:=st2_grown wX (w.heap.size+1+1) 0 u v
  have hsz:=hb.size
  have g3:=(hg.block (w.heap.size+1+1+1) (by omega) (fun e=>by have:=Option.some.inj e;omega)).trans ((hb.block _ (by omega)).trans HT3.out)
  have g1:=(hg.block (w.heap.size+1) (by omega) (fun e=>by have:=Option.some.inj e;omega)).trans ((hb.block _ (by omega)).trans HT1.out)
  exact⟨block_cell g3 rfl,block_cell g3 rfl,block_cell g3 rfl,block_cell g3 rfl,block_cell g3 rfl,block_cell g1 rfl⟩
 have HZ:Hid (∀ wX,Below W0.heap.size W0 wX->wX.cell? ⟨w.heap.size+1+1,0,none⟩=some (.int .i64 0)/\wX.cell? ⟨w.heap.size+1+1,1,none⟩=some (.bool false)/\wX.frozen? ⟨w.heap.size+1+1,0,none⟩=false/\wX.frozen? ⟨w.heap.size+1+1,1,none⟩=false):=fun wX hb=>by
  have g2:=(hb.block _ (by omega)).trans HT2.out
  exact⟨block_cell g2 rfl,block_cell g2 rfl,block_frozen g2,block_frozen g2⟩
 have HD0:Hid (Below W0.heap.size W0 W0.drew):=(Below.refl _ _).drew
 obtain⟨t0,t1,t2,t3,t4,t5⟩:=HF.out W0 (Below.refl _ _)
 have hix:=index_arr x k hk
 go_region_held3 (fun w' => w'.cell? ⟨w.heap.size + 1 + 1 + 1, 0, none⟩ = some (.int .i64 x.a) ∧ w'.cell? ⟨w.heap.size + 1 + 1 + 1, 1, none⟩ = some (.int .i64 x.b) ∧ w'.cell? ⟨w.heap.size + 1 + 1 + 1, 2, none⟩ = some (.int .i64 x.c) ∧ w'.cell? ⟨w.heap.size + 1 + 1 + 1, 3, none⟩ = some (.int .i64 x.d) ∧ w'.cell? ⟨w.heap.size + 1 + 1 + 1, 4, none⟩ = some (.bool x.plus) ∧ w'.cell? ⟨w.heap.size + 1, 1, none⟩ = some (.int .i64 k)) (first | exact HF.out _ HY.out | exact HF.out _ HA.out | exact HF.out _ HD0.out | exact HF.out _ (Below.refl _ _) | exact HFS.out _ _ _ HY.out | exact HFS.out _ _ _ HA.out) (first
  | (go_at_call 53; refine (arcs_any x _).mono ?_; rintro e9 wA ⟨rfl, hbA⟩
     first
      |have HA:Hid (Below W0.heap.size W0 wA):=HY.out.trans (hbA.mono HY.out.size)
      |have HA:Hid (Below W0.heap.size W0 wA):=HD0.out.trans hbA
     obtain⟨a0,a1,a2,a3,a4,a5⟩:=HF.out wA HA.out
     obtain⟨b0,b1,b2,b3⟩:=HZ.out wA HA.out
     clear hbA)
  | (go_at_call 54; refine (comesIn_any x k _ hk).mono ?_; rintro e9 wC ⟨rfl, hbC⟩
     first
      |have HY:Hid (Below W0.heap.size W0 wC):=HA.out.trans (hbC.mono HA.out.size)
      |have HY:Hid (Below W0.heap.size W0 wC):=HD0.out.trans hbC
     obtain⟨p0,p1,p2,p3,p4,p5⟩:=HF.out wC HY.out
     obtain⟨q0,q1,q2,q3⟩:=HZ.out wC HY.out
     clear hbC))
 all_goals first
  | (have hX := set_block (i := 1) (u := .bool (x.comes k)) (set_block (i := 0) (u := .int .i64 (x.arc k)) ((HY.out.block _ (by omega)).trans HT2.out))
     have x0:=block_cell (i:=0) (v:=.int .i64 (x.arc k)) hX rfl
     have x1:=block_cell (i:=1) (v:=.bool (x.comes k)) hX rfl
     go_wp2
     exact bodyPost_ret (v:=.agg #[.int .i64 (x.arc k),.bool (x.comes k)]) (by simp[results,Try.results89,go_sem,x0,x1]) rfl ⟨rfl,(HB0.out.trans (HY.out.mono (by omega))).grown (st2_grown wC (w.heap.size+1+1) 0 (.int .i64 (x.arc k)) (.bool (x.comes k))) (by have:=HY.out.size;omega) (fun q hq=>by have:=Option.some.inj hq;omega)⟩)
  | (have hX := set_block (i := 1) (u := .bool (x.comes k)) (set_block (i := 0) (u := .int .i64 (x.arc k)) ((HA.out.block _ (by omega)).trans HT2.out))
     have x0:=block_cell (i:=0) (v:=.int .i64 (x.arc k)) hX rfl
     have x1:=block_cell (i:=1) (v:=.bool (x.comes k)) hX rfl
     go_wp2
     exact bodyPost_ret (v:=.agg #[.int .i64 (x.arc k),.bool (x.comes k)]) (by simp[results,Try.results89,go_sem,x0,x1]) rfl ⟨rfl,(HB0.out.trans (HA.out.mono (by omega))).grown (st2_grown wA (w.heap.size+1+1) 0 (.int .i64 (x.arc k)) (.bool (x.comes k))) (by have:=HA.out.size;omega) (fun q hq=>by have:=Option.some.inj hq;omega)⟩)
theorem field_dart (a:Int) (p:Bool) (w:World):(Instr.field 107 (.agg #[.int .i64 a,.bool p]) 0).run Try.prog w=.ok (.int .i64 a) w:=by
 simp[Instr.field,run_underlying Try.underlying107,go_sem,asAgg]
theorem ahead_any (a : Option Addr) (cap : Nat) (C : List Cr) (loops : Int) (gF cF gT cT : Nat) (x : Nat) (w : World) (hm : mayD C loops = true) (h1 : 1 ≤ x) (h2 : x ≤ 2 * C.length) (hD : Dr w a cap C gF gT) :
    Calls Try.prog 61 #[drV a cap C loops gF cF gT cT,.int .i64 x] w fun e w'=>e=.returned (.int .i64 (nx C x:Nat))/\Below w.heap.size w w':=by
 obtain⟨b,off,rfl,hbw,hC⟩:=hD.cross (by omega)
 unfold drV
 have hT:=hD.toAt hm x h1 h2
 have c0:=hT.1
 have c1:=hT.2
 have hlt:=hD.ltT
 obtain⟨-,hi,hk,-,-⟩:=to_may hm x h1 h2
 have HNX:Hid ((C.getD (toC C x) Cr.none).arc ((toS C x+2)%4)=(nx C x:Int)):=(nx_may hm x h1 h2).1
 have HC:Hid (CrossAt w b off C):=hC
 clear hT hD hm hC
 generalize toS C x=k at c1 hk HNX
 generalize toC C x=i at c0 hi HNX
 generalize nx C x=z at HNX
 have hx:x<2*C.length+1:=by omega
 obtain⟨k2,hk2⟩:∃ k2:Nat,k2=(k+2)%4:=⟨_,rfl⟩
 have e1:IntKind.i64.wrap ((k:Int)+2)=(k:Int)+2:=IntWalk.i64_in _ (by omega)
 have e2:((k:Int)+2).tmod 4=(k2:Int):=by rw[Int.tmod_eq_emod_of_nonneg (by omega)];omega
 have hk24:k2<4:=by omega
 rw[<-hk2]at HNX
 have hfd:=field_dart (z:Int)
 obtain⟨X,hX⟩:∃ X,X=w.alloc (.cells #[.slice (some ⟨b,off,none⟩) C.length cap,.int .i64 loops,.slice (some ⟨gF,0,none⟩) (2*C.length+1) cF,.slice (some ⟨gT,0,none⟩) (2*C.length+1) cT] 41):=⟨_,rfl⟩
 have HX:Hid (X=w.alloc (.cells #[.slice (some ⟨b,off,none⟩) C.length cap,.int .i64 loops,.slice (some ⟨gF,0,none⟩) (2*C.length+1) cF,.slice (some ⟨gT,0,none⟩) (2*C.length+1) cT] 41)):=hX
 have hsX:X.heap.size=w.heap.size+1:=by rw[hX];simp
 have HB1:Hid (Below w.heap.size w X):=(by rw[hX];exact(Below.refl _ _).alloc (Nat.le_refl _) _:Below w.heap.size w X)
 have HG1:Hid (X.heap[w.heap.size]?=some (.cells #[.slice (some ⟨b,off,none⟩) C.length cap,.int .i64 loops,.slice (some ⟨gF,0,none⟩) (2*C.length+1) cF,.slice (some ⟨gT,0,none⟩) (2*C.length+1) cT] 41 (0,0))):=(by rw[hX];exact alloc_at rfl:X.heap[w.heap.size]?=some (.cells #[.slice (some ⟨b,off,none⟩) C.length cap,.int .i64 loops,.slice (some ⟨gF,0,none⟩) (2*C.length+1) cF,.slice (some ⟨gT,0,none⟩) (2*C.length+1) cT] 41 (0,0)))
 clear hX
 have HK:Hid (∀ w',Below X.heap.size X w'->w'.cell? ⟨w.heap.size,0,none⟩=some (.slice (some ⟨b,off,none⟩) C.length cap)/\w'.cell? ⟨w.heap.size,1,none⟩=some (.int .i64 loops)/\w'.cell? ⟨w.heap.size,2,none⟩=some (.slice (some ⟨gF,0,none⟩) (2*C.length+1) cF)/\w'.cell? ⟨w.heap.size,3,none⟩=some (.slice (some ⟨gT,0,none⟩) (2*C.length+1) cT)/\w'.cell? ⟨gT,x*2,none⟩=some (.int .i64 i)/\w'.cell? ⟨gT,x*2+1,none⟩=some (.int .i64 k)):=fun w' hb=>by
  have g:=(hb.block _ (by omega)).trans HG1.out
  have hb2:=HB1.out.trans (hb.mono (by omega))
  exact⟨block_cell g rfl,block_cell g rfl,block_cell g rfl,block_cell g rfl,bcell hb2 hlt c0,bcell hb2 hlt c1⟩
 have HD0:Hid (Below X.heap.size X X.drew):=(Below.refl _ _).drew
 have HAC:Hid (∀ W:World,Calls Try.prog 90 #[.agg #[.int .i64 i,.int .i64 k]] W fun e w'=>e=.returned (.agg #[.int .i64 i,.int .i64 (k2:Nat)])/\Below W.heap.size W w'):=fun W=>(by rw[hk2];exact across_any i k W hk)
 clear hk2 c0 c1
 obtain⟨t0,t1,t2,t3,t4,t5⟩:=HK.out X (Below.refl _ _)
 have hx0:(0:Int)<=(x:Int):=by omega
 have hx9:(x:Int)<2*(C.length:Int)+1:=by omega
 go_enter Try.func61,Try.ntmps61
 go_wp2
 rw[<-HX.out]
 go_region_held3 (fun w' => w'.cell? ⟨w.heap.size, 0, none⟩ = some (.slice (some ⟨b, off, none⟩) C.length cap) ∧ w'.cell? ⟨w.heap.size, 1, none⟩ = some (.int .i64 loops) ∧ w'.cell? ⟨w.heap.size, 2, none⟩ = some (.slice (some ⟨gF, 0, none⟩) (2 * C.length + 1) cF) ∧ w'.cell? ⟨w.heap.size, 3, none⟩ = some (.slice (some ⟨gT, 0, none⟩) (2 * C.length + 1) cT) ∧ w'.cell? ⟨gT, x * 2, none⟩ = some (.int .i64 i) ∧ w'.cell? ⟨gT, x * 2 + 1, none⟩ = some (.int .i64 k)) (first | exact HK.out _ HD0.out | exact HK.out _ HL.out | exact HK.out _ HA.out) (first
  | (go_at_call 89; refine (leaving_any b off cap C loops _ _ i k2 _ hi hk24 hb9 HC3.out).mono ?_; rw [HNX.out]; rintro e9 w4 ⟨rfl, hb4⟩
     have HL:Hid (Below X.heap.size X w4):=HA.out.trans (hb4.mono HA.out.size))
  | (go_at_call 90; refine (HAC.out _).mono ?_; rintro e9 w3 ⟨rfl, hb3⟩
     have HA:Hid (Below X.heap.size X w3):=HD0.out.trans (hb3.mono HD0.out.size)
     have HC3:Hid (CrossAt w3 b off C):=HC.out.on (HB1.out.trans (HA.out.mono (by omega))) hbw
     have hb9:b<w3.heap.size:=Nat.lt_of_lt_of_le hbw (HB1.out.trans (HA.out.mono (by omega))).size
     clear hb3))
 all_goals
  go_wp2
  go_ret
  exact⟨rfl,HB1.out.trans (HL.out.mono (by omega))⟩
end Go.Proofs.Ytefooihnoajnlaa
/- The walk of ref.EndOf. -/
namespace Go.Proofs.Ytefooihnoajnlaa
open Go.RowKit
set_option maxHeartbeats 4000000
set_option maxRecDepth 100000
theorem may_size {C:List Cr} {loops:Int} (hm:mayD C loops=true):sizeB C loops=true:=by
 cases hs:sizeB C loops with
 |true=>rfl
 |false=>rw[mayD_size hs]at hm;cases hm
theorem endOf_any {lm : Int} (b off cap : Nat) (C : List Cr) (loops : Int) (a : Nat) (back : Bool) (w : World) (hm : mayD C lm = true) (h1 : 1 ≤ a) (h2 : a ≤ 2 * C.length) (hbw : b < w.heap.size) (hC : CrossAt w b off C) :
    Calls Try.prog 33 #[.agg #[.slice (some ⟨b,off,none⟩) C.length cap,.int .i64 loops],.int .i64 a,.bool back] w fun e w'=>e=.returned (.agg #[.int .i64 (endTo C a (!back) C.length).1,.int .i64 (endTo C a (!back) C.length).2])/\Below w.heap.size w w':=by
 have HM:=hidB hm
 obtain⟨s1,-,-,-⟩:=sizeB_iff (may_size hm)
 have HC:=hidB hC
 clear hm hC
 obtain⟨w1,hw1⟩:∃ w1,w1=(w.alloc (.cells #[.slice (some ⟨b,off,none⟩) C.length cap,.int .i64 loops] 24)).alloc (.cells #[.int .i64 0,.int .i64 0] 82):=⟨_,rfl⟩
 have hsz1:w1.heap.size=w.heap.size+2:=by rw[hw1];simp
 have HT1:=hidB (show w1.heap[w.heap.size]?=some (.cells #[.slice (some ⟨b,off,none⟩) C.length cap,.int .i64 loops] 24 (0,0)) by rw[hw1];exact((World.grownBy_alloc _ _ none).block w.heap.size (by simp) (by simp)).trans Array.getElem?_push_size)
 have HT2 : Hid (w1.heap[w.heap.size + 1]? = some (.cells #[.int .i64 0, .int .i64 0] 82 (0, 0))) := (by
  rw[hw1]
  have e:w.heap.size+1=(w.alloc (.cells #[.slice (some ⟨b,off,none⟩) C.length cap,.int .i64 loops] 24)).heap.size:=by simp
  rw[e]
  exact Array.getElem?_push_size:w1.heap[w.heap.size+1]?=some (.cells #[.int .i64 0,.int .i64 0] 82 (0,0)))
 have HE0:Hid (w1.cell? ⟨w.heap.size,0,none⟩=some (.slice (some ⟨b,off,none⟩) C.length cap)):=block_cell HT1.out rfl
 have HE1:Hid (w1.cell? ⟨w.heap.size,1,none⟩=some (.int .i64 loops)):=block_cell HT1.out rfl
 have HB1:=hidB (show Below w.heap.size w w1 by rw[hw1];exact below2 _ _ _)
 have HC1:=hidB (HC.out.on HB1.out hbw)
 have HW1:=hidB hw1
 clear hw1
 go_enter Try.func33,Try.ntmps33
 go_wp2
 go_loopw [7] (fun v7 wr=>∃ i:Nat,i<=C.length/\v7=.int .i64 i/\Hid (∀ i' k':Nat,i'<i->k'<4->¬((C.getD i' Cr.none).arc k'=(a:Int)/\(C.getD i' Cr.none).comes k'=!back))/\Below w1.heap.size w1 wr) (fun v7 _=>C.length-(intOf v7).toNat)
 case atStart=>exact⟨0,Nat.zero_le _,rfl,fun i' k' hi=>absurd hi (Nat.not_lt_zero _),by rw[<-HW1.out];exact Below.refl _ _⟩
 case round=>
  rename World=>W1
  obtain⟨i,hi,rfl,hno,hb⟩:=hrel
  have hszW:=hb.size
  have c0:=bcell hb (by omega) HE0.out
  have c1:=bcell hb (by omega) HE1.out
  by_cases hil:i<C.length
  · have hdi:decide ((i:Int)<(C.length:Int))=true:=by simp;omega
    have hdi2:decide (i<C.length)=true:=by simp;omega
    go_wp2
    clear c0 c1
    go_loopw [8] (fun v8 ws=>∃ k:Nat,k<=4/\v8=.int .i64 k/\Hid (∀ k':Nat,k'<k->¬((C.getD i Cr.none).arc k'=(a:Int)/\(C.getD i Cr.none).comes k'=!back))/\Below w1.heap.size w1 ws) (fun v8 _=>4-(intOf v8).toNat)
    case atStart=>exact⟨0,Nat.zero_le _,rfl,fun k' hk=>absurd hk (Nat.not_lt_zero _),hb⟩
    case round=>
     clear hb
     rename World=>W3
     obtain⟨k,hk,rfl,hnk,hb⟩:=hrel
     have hszY:=hb.size
     by_cases hkl:k<4
     · have HF : Hid (∀ wX, Below (W3.alloc (.cells #[.int .i64 i, .int .i64 k] 82)).heap.size (W3.alloc (.cells #[.int .i64 i, .int .i64 k] 82)) wX → wX.cell? ⟨w.heap.size, 0, none⟩ = some (.slice (some ⟨b, off, none⟩) C.length cap) ∧ wX.cell? ⟨w.heap.size, 1, none⟩ = some (.int .i64 loops) ∧
           wX.cell? ⟨W3.heap.size,0,none⟩=some (.int .i64 i)/\wX.cell? ⟨W3.heap.size,1,none⟩=some (.int .i64 k)/\w.heap.size<wX.heap.size/\W3.heap.size<wX.heap.size/\b<wX.heap.size/\CrossAt wX b off C):=fun wX hX=>by
         have hB:Below w1.heap.size w1 wX:=(hb.alloc hszY _).trans (hX.mono (by simp;omega))
         have hsX:=hX.size
         simp only[World.size_alloc]at hsX
         have hT:wX.heap[W3.heap.size]?=some (.cells #[.int .i64 i,.int .i64 k] 82 (0,0)):=(hX.block _ (by simp)).trans Array.getElem?_push_size
         exact⟨bcell hB (by omega) HE0.out,bcell hB (by omega) HE1.out,block_cell hT rfl,block_cell hT rfl,by omega,by omega,by omega,HC1.out.on hB (by omega)⟩
       have c0:=bcell hb (by omega) HE0.out
       have c1:=bcell hb (by omega) HE1.out
       have hbs:w.heap.size<W3.heap.size:=by omega
       have HB0:Hid (Below (W3.alloc (.cells #[.int .i64 i,.int .i64 k] 82)).heap.size (W3.alloc (.cells #[.int .i64 i,.int .i64 k] 82)) (W3.alloc (.cells #[.int .i64 i,.int .i64 k] 82))):=Below.refl _ _
       have HBN:Hid (∀ wX,Below (W3.alloc (.cells #[.int .i64 i,.int .i64 k] 82)).heap.size (W3.alloc (.cells #[.int .i64 i,.int .i64 k] 82)) wX->Below w1.heap.size w1 wX):=fun wX hX=>(hb.alloc hszY _).trans (hX.mono (by simp;omega))
       obtain⟨av,hav⟩:∃ av,(C.getD i Cr.none).arc k=av:=⟨_,rfl⟩
       obtain⟨cv,hcv⟩:∃ cv,(C.getD i Cr.none).comes k=cv:=⟨_,rfl⟩
       have HAR:=hidB hav
       have HCO:=hidB hcv
       clear hav hcv hb
       by_cases heq:av=(a:Int)
       · subst heq
         go_wp2_with (go_at_call 35;refine(arcAt_any b off cap loops C i k _ hil hkl (HF.out _ HB0.out).2.2.2.2.2.2.1 (HF.out _ HB0.out).2.2.2.2.2.2.2).mono ?_;rw[HAR.out];rintro e9 w4 ⟨rfl,hb4⟩;refine Hid.out ?_)
         refine Lib.hid ?_
         have HB4:=hidB hb4
         obtain⟨p0,p1,q0,q1,r0,r1,-,-⟩:=HF.out w4 HB4.out
         clear hb4 c0 c1
         go_wp2_with (go_at_call 49;refine(entry_any b off cap loops C i k _ hil hkl (HF.out _ HB4.out).2.2.2.2.2.2.1 (HF.out _ HB4.out).2.2.2.2.2.2.2).mono ?_;rw[HCO.out];rintro e9 w5 ⟨rfl,hb5⟩;refine Hid.out ?_)
         refine Lib.hid ?_
         clear p0 p1 q0 q1 r0 r1
         have HB5:=hidB (HB4.out.trans (hb5.mono HB4.out.size))
         obtain⟨p0,p1,q0,q1,r0,r1,-,-⟩:=HF.out w5 HB5.out
         clear hb5
         by_cases hcb:cv=!back
         · have hd:(cv != back)=true:=by rw[hcb];cases back<;>rfl
           have HEQ:Hid (endTo C a (!back) C.length=((i:Int),(k:Int))):=end_one HM.out a h1 h2 (!back) i k hil hkl HAR.out (by rw[HCO.out];exact hcb)
           have HT5:=hidB (((HBN.out _ HB5.out).block _ (by omega)).trans HT2.out)
           have z0:=block_cell (i:=0) HT5.out rfl
           have z1:=block_cell (i:=1) HT5.out rfl
           have f0:=block_frozen (i:=0) HT5.out
           have f1:=block_frozen (i:=1) HT5.out
           go_wp2
           have hX:=set_block (i:=1) (u:=.int .i64 k) (set_block (i:=0) (u:=.int .i64 i) HT5.out)
           have x0:=block_cell (i:=0) (v:=.int .i64 i) hX rfl
           have x1:=block_cell (i:=1) (v:=.int .i64 k) hX rfl
           refine bodyPost_ret (v:=.agg #[.int .i64 i,.int .i64 k]) (by simp[results,Try.results33,go_sem,x0,x1]) rfl ⟨by rw[HEQ.out],?_⟩
           exact(HB1.out.trans ((HBN.out _ HB5.out).mono (by omega))).grown (st2_grown w5 (w.heap.size+1) 0 (.int .i64 i) (.int .i64 k)) (by have:=(HBN.out _ HB5.out).size;omega) (fun k hk=>by have:=Option.some.inj hk;omega)
         · have hd:cv=back:=by cases cv<;>cases back<;>simp_all
           subst hd
           cases cv
           · go_wp2
             go_roundw
             case rel=>
              refine⟨k+1,by omega,by go_num,fun k' hk'=>?_,HBN.out _ HB5.out⟩
              by_cases e:k'=k
              · rw[e,HCO.out];exact fun h=>hcb h.2
              · exact hnk.out k' (by omega)
             case measure=>simp only[intOf];omega
           · go_wp2
             go_roundw
             case rel=>
              refine⟨k+1,by omega,by go_num,fun k' hk'=>?_,HBN.out _ HB5.out⟩
              by_cases e:k'=k
              · rw[e,HCO.out];exact fun h=>hcb h.2
              · exact hnk.out k' (by omega)
             case measure=>simp only[intOf];omega
       · have dA1:(av==(a:Int))=false:=by rw[beq_eq_false_iff_ne];exact heq
         go_wp2_with (go_at_call 35;refine(arcAt_any b off cap loops C i k _ hil hkl (HF.out _ HB0.out).2.2.2.2.2.2.1 (HF.out _ HB0.out).2.2.2.2.2.2.2).mono ?_;rw[HAR.out];rintro e9 w4 ⟨rfl,hb4⟩;refine Hid.out ?_)
         refine Lib.hid ?_
         have HB4:=hidB hb4
         clear hb4 c0 c1
         go_wp2
         go_roundw
         case rel=>
          refine⟨k+1,by omega,by go_num,fun k' hk'=>?_,HBN.out _ HB4.out⟩
          by_cases e:k'=k
          · rw[e,HAR.out];exact fun h=>heq h.1
          · exact hnk.out k' (by omega)
         case measure=>simp only[intOf];omega
     · obtain rfl:k=4:=by omega
       go_wp2
       go_roundw
       case rel=>
        refine⟨i+1,by omega,by go_num,fun i' k' hi' hk'=>?_,hb⟩
        by_cases e:i'=i
        · rw[e];exact hnk.out k' hk'
        · exact hno.out i' k' (by omega) hk'
       case measure=>simp only[intOf];omega
  · obtain⟨i',k',g1,g2,g3,g4,-⟩:=end_may HM.out a h1 h2 (!back)
    exact absurd ⟨g3,g4⟩ (hno.out i' k' (by omega) g2)
end Go.Proofs.Ytefooihnoajnlaa
