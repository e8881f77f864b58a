/- Several texts of the proof, one behind the other. -/
import Derived.Test.YtjcagkgpbcdghaaDoorBK5P
import Derived.Test.YtjcagkgpbcdghaaDoorTkh
import Derived.Test.YtjcagkgpbcdghaaDoorBaseP
/- The walk of bracket.sums.add. -/
namespace Go.Proofs.YtjcagkgpbcdghaaDoor.Poly
open Go.RowKit Go.Maps
set_option maxHeartbeats 16000000
set_option maxRecDepth 100000
theorem arF {g a0 a1 a2 a3:Nat} {X:World} (h:X.heap[g+1]?=some (.cells #[.int .i64 (a0:Nat),.int .i64 (a1:Nat),.int .i64 (a2:Nat),.int .i64 (a3:Nat)] 73 (0,0))):X.cell? ⟨g+1,0,none⟩=some (.int .i64 (a0:Nat))/\X.cell? ⟨g+1,1,none⟩=some (.int .i64 (a1:Nat))/\X.cell? ⟨g+1,2,none⟩=some (.int .i64 (a2:Nat))/\X.cell? ⟨g+1,3,none⟩=some (.int .i64 (a3:Nat)):=⟨QQ0 h rfl,QQ0 h rfl,QQ0 h rfl,QQ0 h rfl⟩
def rgL (m:Nat):List (Int×Int):=if m=0 then [(0,1)] else if m=1 then [(-2,-1),(2,-1)] else [(-4,1),(0,2),(4,1)]
theorem QH9 {m:Nat} (h:m<=2) (f:Int->Int):QQ5 (rgL m) f=dlN m f:=by
 match m,h with
 |0,_=>funext y;show 1*f (y-0)+0=f y;rw[Int.sub_zero];omega
 |1,_=>exact Zw5 f
 |2,_=>
  funext y
  show 1*f (y - -4)+(2*f (y-0)+(1*f (y-4)+0)) = - (- f (y+2+2)-f (y+2-2))-(- f (y-2+2)-f (y-2-2))
  rw[show y - -4=y+4 by omega,show y+2+2=y+4 by omega,show y+2-2=y by omega,show y-2+2=y by omega,show y-2-2=y-4 by omega,Int.sub_zero]
  omega
theorem ZG4 (l:List (Int×Int)) (y:Int):QQ5 l QJ2 y=coefL l y:=by
 induction l with
 |nil=>rfl
 |cons t l ih=>
  show t.2*QJ2 (y-t.1)+QQ5 l QJ2 y=(if t.1=y then t.2 else 0)+coefL l y
  rw[ih]
  unfold QJ2
  by_cases e:t.1=y
  · rw[if_pos e,if_pos (by omega)];omega
  · rw[if_neg e,if_neg (by omega)];omega
theorem Qv0 {m:Nat} (h:m<=2) (y:Int):dlN m QJ2 y=coefL (rgL m) y:=by
 rw[<-QH9 h,ZG4]
theorem ZZ3 {m:Nat} (h:m<=2) (y:Int):(dlN m QJ2 y).natAbs<=2:=by
 rw[Qv0 h]
 match m,h with
 |0,_=>show(coefL [(0,1)] y).natAbs<=2;rw[QC9];split<;>decide
 |1,_=>exact Nat.le_trans (ZJ1 y) (by decide)
 |2,_=>
  show((if(-4:Int)=y then(1:Int) else 0)+((if(0:Int)=y then(2:Int) else 0)+((if(4:Int)=y then(1:Int) else 0)+0))).natAbs<=2
  split<;>split<;>split<;>omega
theorem setRow_other {W:World} {g g':Nat} {cs:Array Value} (h:g≠g'):(W.setRow g' cs).heap[g]?=W.heap[g]?:=by
 simp only[World.setRow,Array.getElem?_modify]
 rw[if_neg (Ne.symm h)]
theorem QG2 {w W W':World} {b:Nat} (h:Below w.heap.size w W) (hg:W.grownBy W' (some b)) (_hb:b<w.heap.size):w.grownBy W' (some b):=
 ⟨hg.os.trans h.os,hg.tape.trans h.tape,hg.output.trans h.output,Nat.le_trans h.size hg.size,fun i hi hne=>(hg.block i (Nat.lt_of_lt_of_le hi h.size) hne).trans (h.block i hi)⟩
theorem wrap_small {m:Nat} (h:m<=100):IntKind.i64.wrap (m:Int)=(m:Int):=IntWalk.i64_in _ (by omega)
theorem Qd2 {P : Program} {ev : Operand → Value} {o : Oper} {w : World} (ty : TypeId) (x : Operand) (ho : o.op = .load ty x) (g : Nat) (hx : ev x = .pointer (some ⟨g, 0, none⟩)) (t : TypeId) (cs : Array Value) (fr : Nat × Nat) (d : TypeDesc) (hg : w.heap[g]? = some (.cells cs t fr))
    (hu:P.underlying ty=some d) (hd:(match d with|.struct _|.array _ _=>true|_=>false)=true) (hi:(P.info? ty).map (·.size)=some cs.size):(execOp ev o).run P w=.ok (.value (.agg cs)) w:=by
 unfold execOp
 simp only[ho,hx,Instr.loadAt,Instr.sureAddr,Sem.run_bind,Sem.run_pure,Result.andThen_ok,run_loadVar_row w g t ty cs fr d hg hu hd hi]
theorem Jj1 (L b n K M J Hf : Nat) (V : List Nat → Int → Int) (D : DataW Unit) (T : List Nat) (f : Int → Int) (c a0 a1 a2 a3 : Nat) (w : World) (hT : GoodK T) (h0 : a0 < 26) (h1 : a1 < 26) (h2 : a2 < 26) (h3 : a3 < 26) (hR : RingAt w) (hL : L ≤ w.heap.size) (hbL : b < L) (hn : n < 100000000)
    (hK:J+4<=K) (hK2:K<=900) (hM:M<=10000) (hS:SumD w L w.heap.size b n K (2*K+1) V D) (hf:WkV w w.heap.size (.map (some c)) M J f) (hH:(2*J+1)*(Hf*2)<=4000000000000000000) (hfb:∀ y,(f y).natAbs<=Hf) (hVb:∀ y,(V (t4 T a0 a1 a2 a3) y).natAbs<=1000000000000000000) (hdb:∀ y,(dlN (c4 T a0 a1 a2 a3) f y).natAbs<=1000000000000000000):
    Calls Tryd.prog 54 #[.map (some b),tiV T,.map (some c),.agg #[.int .i64 (a0:Nat),.int .i64 (a1:Nat),.int .i64 (a2:Nat),.int .i64 (a3:Nat)],.int .i64 0] w fun e w'=>e=.returned (.tuple #[])/\∃ D',SumD w' L w'.heap.size b (n+1) K (2*K+1) (fun U=>if U=t4 T a0 a1 a2 a3 then(fun y=>V U y+dlN (c4 T a0 a1 a2 a3) f y) else V U) D'/\w.grownBy w' (some b)/\(∀ l,keyOf Tryd.prog 78 (tiV (t4 T a0 a1 a2 a3))=some l->Maps.has D' l=true)/\(∀ kl,Maps.has D kl=true->Maps.has D' kl=true):=by
 obtain⟨T1,hT1⟩:∃ X,Qu8 T a0 a1=X:=⟨_,rfl⟩
 obtain⟨T2,hT2⟩:∃ X,Qu8 T1 a2 a3=X:=⟨_,rfl⟩
 obtain⟨n1,hn1⟩:∃ X,XF3 T a0 a1=X:=⟨_,rfl⟩
 obtain⟨n2,hn2⟩:∃ X,XF3 T1 a2 a3=X:=⟨_,rfl⟩
 have e4:t4 T a0 a1 a2 a3=T2:=by unfold t4;rw[hT1,hT2]
 have ec:c4 T a0 a1 a2 a3=n1+n2:=by unfold c4;rw[hn1,hT1,hn2]
 have hc2:n1+n2<=2:=by rw[<-ec];exact XF7 _ _ _ _ _
 obtain⟨m,hm⟩:∃ X,n1+n2=X:=⟨_,rfl⟩
 rw[e4]at hVb ⊢
 rw[ec,hm]at hdb ⊢
 rw[hm]at hc2
 have HMM:=QQ1 hm
 clear hm
 have g1:GoodK T1:=by rw[<-hT1];exact hT.tie _ _
 have g2:GoodK T2:=by rw[<-hT2];exact g1.tie _ _
 have HC1:Hid (∀ W,Calls Tryd.prog 70 #[.agg (tiA T),.int .i64 (a0:Nat),.int .i64 (a1:Nat)] W fun e w'=>e=.returned (.tuple #[.agg (tiA T1),.int .i64 (n1:Nat)])/\Below W.heap.size W w'):=fun W=>by rw[<-hT1,<-hn1];exact Qv9 T a0 a1 W hT (by omega) (by omega)
 have HC2:Hid (∀ W,Calls Tryd.prog 70 #[.agg (tiA T1),.int .i64 (a2:Nat),.int .i64 (a3:Nat)] W fun e w'=>e=.returned (.tuple #[.agg (tiA T2),.int .i64 (n2:Nat)])/\Below W.heap.size W w'):=fun W=>by rw[<-hT2,<-hn2];exact Qv9 T1 a2 a3 W g1 (by omega) (by omega)
 clear hT1 hT2 hn1 hn2 e4 ec
 have HT:=QQ1 hT
 have G1:=QQ1 g1
 have G2:=QQ1 g2
 have HR:=QQ1 hR
 have HS:=QQ1 hS
 have HF:=QQ1 hf
 have HFB:=QQ1 hfb
 have HVB:=QQ1 hVb
 have HDB:=QQ1 hdb
 have HH:=QQ1 hH
 have hbw:b<w.heap.size:=by omega
 clear hT g1 g2 hR hS hf hfb hVb hdb hH
 obtain⟨V0,hV0⟩:∃ X,(w.alloc (.cells (tiA T) 78)).alloc (.cells #[.int .i64 (a0:Nat),.int .i64 (a1:Nat),.int .i64 (a2:Nat),.int .i64 (a3:Nat)] 73)=X:=⟨_,rfl⟩
 have B0:Hid (Below w.heap.size w V0):=(by rw[<-hV0];exact((Below.refl _ _).alloc (Nat.le_refl _) _).alloc (by simp) _:Below w.heap.size w V0)
 have T0 : Hid (TiAt V0 w.heap.size T) := (by
  rw[<-hV0];unfold TiAt
  rw[heap_alloc_old _ _ (by simp),heap_alloc_new]:TiAt V0 w.heap.size T)
 have A0 : Hid (V0.heap[w.heap.size + 1]? = some (.cells #[.int .i64 (a0 : Nat), .int .i64 (a1 : Nat), .int .i64 (a2 : Nat), .int .i64 (a3 : Nat)] 73 (0, 0))) := (by
  rw[<-hV0]
  have:=heap_alloc_new (w.alloc (.cells (tiA T) 78)) (.cells #[.int .i64 (a0:Nat),.int .i64 (a1:Nat),.int .i64 (a2:Nat),.int .i64 (a3:Nat)] 73)
  rw[show(w.alloc (.cells (tiA T) 78)).heap.size=w.heap.size+1 by simp]at this
  exact this:V0.heap[w.heap.size+1]?=_)
 have s0:w.heap.size+1<V0.heap.size:=(Array.getElem?_eq_some_iff.1 A0.out).1
 have HV0:=QQ1 hV0
 clear hV0
 have HQ0:Hid (∀ W,Below V0.heap.size V0 W->(fun X:World=>X.cell? ⟨w.heap.size+1,0,none⟩=some (.int .i64 (a0:Nat))/\X.cell? ⟨w.heap.size+1,1,none⟩=some (.int .i64 (a1:Nat))/\X.cell? ⟨w.heap.size+1,2,none⟩=some (.int .i64 (a2:Nat))/\X.cell? ⟨w.heap.size+1,3,none⟩=some (.int .i64 (a3:Nat))) W):=fun W hW=>arF ((hW.block _ s0).trans A0.out)
 have HD0:Hid (Below V0.heap.size V0 V0.drew):=(Below.refl _ _).drew
 unfold tiV
 go_enter Tryd.func54,Tryd.ntmps54
 go_upto_region 1 with(fail)
 rw[HV0.out]
 refine rhd HQ0 HD0.out (fun hHeld=>?_)
 have x1:IntKind.i64.wrap 1=1:=by decide
 have x2:IntKind.i64.wrap 2=2:=by decide
 refine tq 14 1 (h:=?_)
 refine tq 15 2 (h:=?_)
 refine tq 16 3 (h:=?_)
 refine tq 17 4 (h:=?_)
 refine tq 18 5 (h:=?_)
 refine tq 19 6 (h:=?_)
 refine tq 20 7 (h:=?_)
 simp only[List.setIfInBounds_toArray,List.set_cons_succ,List.set_cons_zero]
 clear hHeld x1 x2
 refine rd1 0 ?_
 intro K0 hK0
 refine wp_load_row 78 _ rfl w.heap.size rfl 78 _ (0,0) _ (T0.out.on HD0.out (by omega)) Tryd.underlying78 rfl (QV0 HT.out) ?_
 refine hK0.out _ _ (HQ0.out _ HD0.out) (fun _=>?_)
 clear hK0 K0
 try simp only[Act.put]
 try simp only[List.getElem_toArray]
 try simp only[List.getElem_cons_succ]
 try simp only[List.getElem_cons_zero]
 try simp only[List.setIfInBounds_toArray,List.set_cons_succ,List.set_cons_zero]
 refine rd1 8 ?_
 intro K0 hK0
 go_simp
 go_wp2_with (go_at_call 70;refine(HC1.out _).mono ?_;rintro e9 w1 ⟨rfl,hb1⟩)
 have HB1:=QQ1 (HD0.out.trans (hb1.mono HD0.out.size))
 clear hb1
 refine hK0.out _ _ (HQ0.out _ HB1.out) (fun hHeld=>?_)
 clear hK0 K0
 try simp only[Act.put]
 try simp only[List.getElem_toArray]
 try simp only[List.getElem_cons_succ]
 try simp only[List.getElem_cons_zero]
 try  refine tq 12 9 (h:=?_)
 refine tq 22 10 (h:=?_)
 refine tq 23 11 (h:=?_)
 simp only[List.setIfInBounds_toArray,List.set_cons_succ,List.set_cons_zero]
 clear hHeld
 have TI1:Hid (TiAt w1 w.heap.size T):=T0.out.on HB1.out (by omega)
 have hX1:TiAt (w1.setRow w.heap.size (tiA T1)) w.heap.size T1:=TI1.out.row
 have hA1:(w1.setRow w.heap.size (tiA T1)).heap[w.heap.size+1]?=_:=(setRow_other (by omega)).trans ((HB1.out.block _ s0).trans A0.out)
 have hB1:Below w.heap.size w (w1.setRow w.heap.size (tiA T1)):=QJ1 (B0.out.trans (HB1.out.mono B0.out.size)) (Nat.le_refl _)
 refine rd1 12 ?_
 intro K0 hK0
 refine wp_store_row 78 _ _ rfl w.heap.size (tiA T1) rfl rfl 78 _ TI1.out (QV0 G1.out) (by rw[QZ3 HT.out,QZ3 G1.out]) (QC5 _) ?_
 refine hK0.out _ _ (arF hA1) (fun hHeld=>?_)
 clear hK0 K0
 generalize w1.setRow w.heap.size (tiA T1)=X1 at*
 try simp only[Act.put]
 try simp only[List.getElem_toArray]
 try simp only[List.getElem_cons_succ]
 try simp only[List.getElem_cons_zero]
 try  refine tq 10 13 (h:=?_)
 simp only[List.setIfInBounds_toArray,List.set_cons_succ,List.set_cons_zero]
 refine wpAnyH_done (by kernel_rfl) ?_ _
 clear hHeld
 have HX1:=QQ1 hX1
 have HA1:=QQ1 hA1
 have HBX1:=QQ1 hB1
 have s1:w.heap.size+1<X1.heap.size:=(Array.getElem?_eq_some_iff.1 hA1).1
 clear hX1 hA1 hB1 TI1 HB1 HQ0 HD0 T0 A0 B0 HV0 s0
 have HQ1:Hid (∀ W,Below X1.heap.size X1 W->(fun X:World=>X.cell? ⟨w.heap.size+1,0,none⟩=some (.int .i64 (a0:Nat))/\X.cell? ⟨w.heap.size+1,1,none⟩=some (.int .i64 (a1:Nat))/\X.cell? ⟨w.heap.size+1,2,none⟩=some (.int .i64 (a2:Nat))/\X.cell? ⟨w.heap.size+1,3,none⟩=some (.int .i64 (a3:Nat))) W):=fun W hW=>arF ((hW.block _ s1).trans HA1.out)
 have HD1:Hid (Below X1.heap.size X1 X1.drew):=(Below.refl _ _).drew
 go_upto_region 2 with(fail)
 refine rhd HQ1 HD1.out (fun hHeld=>?_)
 have x2:IntKind.i64.wrap 2=2:=by decide
 have x3:IntKind.i64.wrap 3=3:=by decide
 have x4:IntKind.i64.wrap 4=4:=by decide
 have x0:IntKind.i64.wrap 0=0:=by decide
 have m3:Int.tmod 3 4=3:=by decide
 have m4:Int.tmod 4 4=0:=by decide
 refine tq 26 1 (h:=?_)
 refine tq 27 2 (h:=?_)
 refine tq 28 3 (h:=?_)
 refine tq 29 4 (h:=?_)
 refine tq 30 5 (h:=?_)
 refine tq 31 6 (h:=?_)
 refine tq 32 7 (h:=?_)
 refine tq 33 8 (h:=?_)
 refine tq 34 9 (h:=?_)
 simp only[List.setIfInBounds_toArray,List.set_cons_succ,List.set_cons_zero]
 clear hHeld x2 x3 x4 x0 m3 m4
 refine rd1 0 ?_
 intro K0 hK0
 refine wp_load_row 78 _ rfl w.heap.size rfl 78 _ (0,0) _ (HX1.out.on HD1.out (by omega)) Tryd.underlying78 rfl (QV0 G1.out) ?_
 refine hK0.out _ _ (HQ1.out _ HD1.out) (fun _=>?_)
 clear hK0 K0
 try simp only[Act.put]
 try simp only[List.getElem_toArray]
 try simp only[List.getElem_cons_succ]
 try simp only[List.getElem_cons_zero]
 try simp only[List.setIfInBounds_toArray,List.set_cons_succ,List.set_cons_zero]
 refine rd1 10 ?_
 intro K0 hK0
 go_simp
 go_wp2_with (go_at_call 70;refine(HC2.out _).mono ?_;rintro e9 w2 ⟨rfl,hb2⟩)
 have HB2:=QQ1 (HD1.out.trans (hb2.mono HD1.out.size))
 clear hb2
 refine hK0.out _ _ (HQ1.out _ HB2.out) (fun hHeld=>?_)
 clear hK0 K0
 try simp only[Act.put]
 try simp only[List.getElem_toArray]
 try simp only[List.getElem_cons_succ]
 try simp only[List.getElem_cons_zero]
 try  refine tq 24 11 (h:=?_)
 refine tq 36 12 (h:=?_)
 refine tq 37 13 (h:=?_)
 simp only[List.setIfInBounds_toArray,List.set_cons_succ,List.set_cons_zero]
 clear hHeld
 have TI2:Hid (TiAt w2 w.heap.size T1):=HX1.out.on HB2.out (by omega)
 have hX2:TiAt (w2.setRow w.heap.size (tiA T2)) w.heap.size T2:=TI2.out.row
 have hA2:(w2.setRow w.heap.size (tiA T2)).heap[w.heap.size+1]?=_:=(setRow_other (by omega)).trans ((HB2.out.block _ s1).trans HA1.out)
 have hB2:Below w.heap.size w (w2.setRow w.heap.size (tiA T2)):=QJ1 (HBX1.out.trans (HB2.out.mono HBX1.out.size)) (Nat.le_refl _)
 refine rd1 14 ?_
 intro K0 hK0
 refine wp_store_row 78 _ _ rfl w.heap.size (tiA T2) rfl rfl 78 _ TI2.out (QV0 G2.out) (by rw[QZ3 G1.out,QZ3 G2.out]) (QC5 _) ?_
 refine hK0.out _ _ (arF hA2) (fun hHeld=>?_)
 clear hK0 K0
 generalize w2.setRow w.heap.size (tiA T2)=X2 at*
 try simp only[Act.put]
 try simp only[List.getElem_toArray]
 try simp only[List.getElem_cons_succ]
 try simp only[List.getElem_cons_zero]
 try  refine tq 11 15 (h:=?_)
 simp only[List.setIfInBounds_toArray,List.set_cons_succ,List.set_cons_zero]
 refine wpAnyH_done (by kernel_rfl) ?_ _
 have HX2:=QQ1 hX2
 have HBX2:=QQ1 hB2
 have s2:w.heap.size+1<X2.heap.size:=(Array.getElem?_eq_some_iff.1 hA2).1
 clear hHeld hX2 hA2 hB2 TI2 HB2 HQ1 HD1 HX1 HA1 HBX1 s1
 have hS2:=HS.out.on HBX2.out hbw
 obtain⟨v,hv1,hv2⟩:=hS2.look2 G2.out hbw
 have HV1:=QQ1 hv1
 have HQ2:Hid (∀ W,Below X2.heap.size X2 W->(fun X:World=>TiAt X w.heap.size T2) W):=fun W hW=>HX2.out.on hW (by omega)
 have HLK:Hid (∀ W,Below X2.heap.size X2 W->(Instr.lookup 81 (.map (some b)) (.agg (tiA T2)) false).run Tryd.prog W=.ok v W):=fun W hW=>hv2 W (hW.mono (by omega))
 have HS2:=QQ1 hS2
 have HD2:Hid (Below X2.heap.size X2 X2.drew):=(Below.refl _ _).drew
 clear hv1 hv2 hS2
 go_upto_region 3 with(fail)
 refine rhd HQ2 HD2.out (fun hHeld=>?_)
 have x5:IntKind.i64.wrap ((n1:Int)+(n2:Int))=(m:Int):=by rw[show((n1:Int)+(n2:Int))=(m:Int) by have:=HMM.out;omega];exact wrap_small (by omega)
 refine tq 38 0 (h:=?_)
 refine tq 39 1 (hy:=fun W hW=>Qd2 78 _ rfl w.heap.size rfl 78 _ (0,0) _ hW Tryd.underlying78 rfl (QV0 G2.out)) (h:=?_)
 refine tq 40 2 (h:=?_)
 refine tq 41 3 (hy:=fun W hW=>Qd2 78 _ rfl w.heap.size rfl 78 _ (0,0) _ hW Tryd.underlying78 rfl (QV0 G2.out)) (h:=?_)
 refine tq 43 5 (h:=?_)
 refine tq 44 6 (h:=?_)
 refine tq 45 7 (h:=?_)
 refine tq 46 8 (h:=?_)
 simp only[List.setIfInBounds_toArray,List.set_cons_succ,List.set_cons_zero]
 clear hHeld x5
 have HRX:Hid (RingAt X2.drew):=HR.out.any (HBX2.out.trans (HD2.out.mono HBX2.out.size))
 have HG:=QQ1 (rings_any m X2.drew (by omega) HRX.out)
 refine rd2 4 9 ?_ ?_
 · intro K0 hK0
   have hlk:=HLK.out _ HD2.out
   go_simp
   refine hK0.out _ _ (HQ2.out _ HD2.out) (fun _=>?_)
   clear hK0 K0 hlk
   try simp only[Act.put]
   try simp only[List.getElem_toArray]
   try simp only[List.getElem_cons_succ]
   try simp only[List.getElem_cons_zero]
   try simp only[List.setIfInBounds_toArray,List.set_cons_succ,List.set_cons_zero]
   refine rd1 9 ?_
   intro K0 hK0
   go_simp
   go_wp2_with (go_at_call 35;refine HG.out.mono ?_;rintro e9 w3 ⟨c3,rfl,hc3,hw3,hb3⟩)
   have HB3:=QQ1 (HD2.out.trans (hb3.mono HD2.out.size))
   have HW3:=QQ1 hw3
   clear hb3 hw3
   refine hK0.out _ _ (HQ2.out _ HB3.out) (fun _=>?_)
   clear hK0 K0
   try simp only[Act.put]
   try simp only[List.getElem_toArray]
   try simp only[List.getElem_cons_succ]
   try simp only[List.getElem_cons_zero]
   try simp only[List.setIfInBounds_toArray,List.set_cons_succ,List.set_cons_zero]
   have B3:Hid (Below w.heap.size w w3):=HBX2.out.trans (HB3.out.mono HBX2.out.size)
   have HTM:=QQ1 (QY7 (.map (some c)) (.map (some c3)) M (2*(2*m)+1) J (2*m) Hf 2 (rgL m) f (dlN m QJ2) w3 (by omega) (by omega) (by omega) HH.out HFB.out (ZZ3 hc2) ((HF.out.on B3.out).mono B3.out.size (Nat.le_refl _) (Nat.le_refl _)) HW3.out (by simp) (Qv0 hc2))
   refine rd1 10 ?_
   intro K0 hK0
   go_simp
   go_wp2_with (go_at_call 17;refine HTM.out.mono ?_;rintro e9 w4 ⟨rfl,hw4,hb4⟩)
   have HB4:=QQ1 (HB3.out.trans (hb4.mono HB3.out.size))
   rw[QH9 hc2]at hw4
   have HW4:=QQ1 (hw4.mono (Nat.le_refl _) (show 2*(J+2*m)+1<=2*K+1 by omega) (show J+2*m<=K by omega))
   clear hb4 hw4
   refine hK0.out _ _ (HQ2.out _ HB4.out) (fun _=>?_)
   clear hK0 K0
   try simp only[Act.put]
   try simp only[List.getElem_toArray]
   try simp only[List.getElem_cons_succ]
   try simp only[List.getElem_cons_zero]
   try simp only[List.setIfInBounds_toArray,List.set_cons_succ,List.set_cons_zero]
   have B4:Hid (Below w.heap.size w w4):=HBX2.out.trans (HB4.out.mono HBX2.out.size)
   have hwv:=(HV1.out.on (HB4.out.mono (by omega:w.heap.size<=X2.heap.size))).mono B4.out.size (Nat.le_refl _) (Nat.le_refl _)
   have HPL:=QQ1 (QA2 v (.map (some w3.heap.size)) (2*K+1) (2*K+1) K (V T2) (dlN m f) w4 (by omega) (by omega) hK2 HVB.out HDB.out hwv HW4.out (by simp))
   clear hwv
   refine rd1 11 ?_
   intro K0 hK0
   go_simp
   go_wp2_with (go_at_call 55;refine HPL.out.mono ?_;rintro e9 w5 ⟨rfl,hw5,hb5⟩)
   have HB5:=QQ1 (HB4.out.trans (hb5.mono HB4.out.size))
   have HW5:=QQ1 hw5
   clear hb5 hw5 HPL
   refine hK0.out _ _ (HQ2.out _ HB5.out) (fun _=>?_)
   clear hK0 K0
   try simp only[Act.put]
   try simp only[List.getElem_toArray]
   try simp only[List.getElem_cons_succ]
   try simp only[List.getElem_cons_zero]
   try simp only[List.setIfInBounds_toArray,List.set_cons_succ,List.set_cons_zero]
   have B5:Hid (Below w.heap.size w w5):=HBX2.out.trans (HB5.out.mono HBX2.out.size)
   have hS5:=(HS.out.on B5.out hbw).mono (Nat.le_refl _) B5.out.size (Nat.le_refl _) (Nat.le_refl _) (Nat.le_refl _)
   obtain⟨w6,D6,hrun,hS6,hg6,hk6,hm6⟩:=hS5.put G2.out hn hbL (c:=w4.heap.size) (f:=fun y=>V T2 y+dlN m f y) (Nat.le_trans hL B4.out.size) HW5.out
   unfold tiV at hrun
   have HS6:=QQ1 hS6
   have HG6:=QQ1 hg6
   have HK6:=QQ1 hk6
   have HM6:=QQ1 hm6
   have ht6:TiAt w6 w.heap.size T2:=(hg6.block _ (by have:=B5.out.size;have:=(HQ2.out _ HB5.out).lt;omega) (fun e=>by have:=Option.some.inj e;omega)).trans (HQ2.out _ HB5.out)
   have HT6:=QQ1 ht6
   clear hS5 hS6 hg6 hk6 hm6 ht6
   refine rd1 12 ?_
   intro K0 hK0
   go_simp
   refine hK0.out _ _ HT6.out (fun _=>?_)
   clear hK0 K0
   refine wpAnyH_done (by kernel_rfl) ?_ _
   go_wp2
   exact bodyPost_end (results_none rfl _ _ _) rfl ⟨rfl, D6, HS6.out.congr (fun U _ => by
    by_cases e:U=T2
    · rw[if_pos e,if_pos e,e]
    · rw[if_neg e,if_neg e]),QG2 B5.out HG6.out hbw,HK6.out,HM6.out⟩
 · intro K0 hK0
   go_simp
   go_wp2_with (go_at_call 35;refine HG.out.mono ?_;rintro e9 w3 ⟨c3,rfl,hc3,hw3,hb3⟩)
   have HB3:=QQ1 (HD2.out.trans (hb3.mono HD2.out.size))
   have HW3:=QQ1 hw3
   clear hb3 hw3
   refine hK0.out _ _ (HQ2.out _ HB3.out) (fun _=>?_)
   clear hK0 K0
   try simp only[Act.put]
   try simp only[List.getElem_toArray]
   try simp only[List.getElem_cons_succ]
   try simp only[List.getElem_cons_zero]
   try simp only[List.setIfInBounds_toArray,List.set_cons_succ,List.set_cons_zero]
   have B3:Hid (Below w.heap.size w w3):=HBX2.out.trans (HB3.out.mono HBX2.out.size)
   have HTM:=QQ1 (QY7 (.map (some c)) (.map (some c3)) M (2*(2*m)+1) J (2*m) Hf 2 (rgL m) f (dlN m QJ2) w3 (by omega) (by omega) (by omega) HH.out HFB.out (ZZ3 hc2) ((HF.out.on B3.out).mono B3.out.size (Nat.le_refl _) (Nat.le_refl _)) HW3.out (by simp) (Qv0 hc2))
   refine rd2 4 10 ?_ ?_
   · intro K0 hK0
     have hlk:=HLK.out _ HB3.out
     go_simp
     refine hK0.out _ _ (HQ2.out _ HB3.out) (fun _=>?_)
     clear hK0 K0 hlk
     try simp only[Act.put]
     try simp only[List.getElem_toArray]
     try simp only[List.getElem_cons_succ]
     try simp only[List.getElem_cons_zero]
     try simp only[List.setIfInBounds_toArray,List.set_cons_succ,List.set_cons_zero]
     refine rd1 10 ?_
     intro K0 hK0
     go_simp
     go_wp2_with (go_at_call 17;refine HTM.out.mono ?_;rintro e9 w4 ⟨rfl,hw4,hb4⟩)
     have HB4:=QQ1 (HB3.out.trans (hb4.mono HB3.out.size))
     rw[QH9 hc2]at hw4
     have HW4:=QQ1 (hw4.mono (Nat.le_refl _) (show 2*(J+2*m)+1<=2*K+1 by omega) (show J+2*m<=K by omega))
     clear hb4 hw4
     refine hK0.out _ _ (HQ2.out _ HB4.out) (fun _=>?_)
     clear hK0 K0
     try simp only[Act.put]
     try simp only[List.getElem_toArray]
     try simp only[List.getElem_cons_succ]
     try simp only[List.getElem_cons_zero]
     try simp only[List.setIfInBounds_toArray,List.set_cons_succ,List.set_cons_zero]
     have B4:Hid (Below w.heap.size w w4):=HBX2.out.trans (HB4.out.mono HBX2.out.size)
     have hwv:=(HV1.out.on (HB4.out.mono (by omega:w.heap.size<=X2.heap.size))).mono B4.out.size (Nat.le_refl _) (Nat.le_refl _)
     have HPL:=QQ1 (QA2 v (.map (some w3.heap.size)) (2*K+1) (2*K+1) K (V T2) (dlN m f) w4 (by omega) (by omega) hK2 HVB.out HDB.out hwv HW4.out (by simp))
     clear hwv
     refine rd1 11 ?_
     intro K0 hK0
     go_simp
     go_wp2_with (go_at_call 55;refine HPL.out.mono ?_;rintro e9 w5 ⟨rfl,hw5,hb5⟩)
     have HB5:=QQ1 (HB4.out.trans (hb5.mono HB4.out.size))
     have HW5:=QQ1 hw5
     clear hb5 hw5 HPL
     refine hK0.out _ _ (HQ2.out _ HB5.out) (fun _=>?_)
     clear hK0 K0
     try simp only[Act.put]
     try simp only[List.getElem_toArray]
     try simp only[List.getElem_cons_succ]
     try simp only[List.getElem_cons_zero]
     try simp only[List.setIfInBounds_toArray,List.set_cons_succ,List.set_cons_zero]
     have B5:Hid (Below w.heap.size w w5):=HBX2.out.trans (HB5.out.mono HBX2.out.size)
     have hS5:=(HS.out.on B5.out hbw).mono (Nat.le_refl _) B5.out.size (Nat.le_refl _) (Nat.le_refl _) (Nat.le_refl _)
     obtain⟨w6,D6,hrun,hS6,hg6,hk6,hm6⟩:=hS5.put G2.out hn hbL (c:=w4.heap.size) (f:=fun y=>V T2 y+dlN m f y) (Nat.le_trans hL B4.out.size) HW5.out
     unfold tiV at hrun
     have HS6:=QQ1 hS6
     have HG6:=QQ1 hg6
     have HK6:=QQ1 hk6
     have HM6:=QQ1 hm6
     have ht6:TiAt w6 w.heap.size T2:=(hg6.block _ (by have:=B5.out.size;have:=(HQ2.out _ HB5.out).lt;omega) (fun e=>by have:=Option.some.inj e;omega)).trans (HQ2.out _ HB5.out)
     have HT6:=QQ1 ht6
     clear hS5 hS6 hg6 hk6 hm6 ht6
     refine rd1 12 ?_
     intro K0 hK0
     go_simp
     refine hK0.out _ _ HT6.out (fun _=>?_)
     clear hK0 K0
     refine wpAnyH_done (by kernel_rfl) ?_ _
     go_wp2
     exact bodyPost_end (results_none rfl _ _ _) rfl ⟨rfl, D6, HS6.out.congr (fun U _ => by
      by_cases e:U=T2
      · rw[if_pos e,if_pos e,e]
      · rw[if_neg e,if_neg e]),QG2 B5.out HG6.out hbw,HK6.out,HM6.out⟩
   · intro K0 hK0
     go_simp
     go_wp2_with (go_at_call 17;refine HTM.out.mono ?_;rintro e9 w4 ⟨rfl,hw4,hb4⟩)
     have HB4:=QQ1 (HB3.out.trans (hb4.mono HB3.out.size))
     rw[QH9 hc2]at hw4
     have HW4:=QQ1 (hw4.mono (Nat.le_refl _) (show 2*(J+2*m)+1<=2*K+1 by omega) (show J+2*m<=K by omega))
     clear hb4 hw4
     refine hK0.out _ _ (HQ2.out _ HB4.out) (fun _=>?_)
     clear hK0 K0
     try simp only[Act.put]
     try simp only[List.getElem_toArray]
     try simp only[List.getElem_cons_succ]
     try simp only[List.getElem_cons_zero]
     try simp only[List.setIfInBounds_toArray,List.set_cons_succ,List.set_cons_zero]
     refine rd1 4 ?_
     intro K0 hK0
     have hlk:=HLK.out _ HB4.out
     go_simp
     refine hK0.out _ _ (HQ2.out _ HB4.out) (fun _=>?_)
     clear hK0 K0 hlk
     try simp only[Act.put]
     try simp only[List.getElem_toArray]
     try simp only[List.getElem_cons_succ]
     try simp only[List.getElem_cons_zero]
     try simp only[List.setIfInBounds_toArray,List.set_cons_succ,List.set_cons_zero]
     have B4:Hid (Below w.heap.size w w4):=HBX2.out.trans (HB4.out.mono HBX2.out.size)
     have hwv:=(HV1.out.on (HB4.out.mono (by omega:w.heap.size<=X2.heap.size))).mono B4.out.size (Nat.le_refl _) (Nat.le_refl _)
     have HPL:=QQ1 (QA2 v (.map (some w3.heap.size)) (2*K+1) (2*K+1) K (V T2) (dlN m f) w4 (by omega) (by omega) hK2 HVB.out HDB.out hwv HW4.out (by simp))
     clear hwv
     refine rd1 11 ?_
     intro K0 hK0
     go_simp
     go_wp2_with (go_at_call 55;refine HPL.out.mono ?_;rintro e9 w5 ⟨rfl,hw5,hb5⟩)
     have HB5:=QQ1 (HB4.out.trans (hb5.mono HB4.out.size))
     have HW5:=QQ1 hw5
     clear hb5 hw5 HPL
     refine hK0.out _ _ (HQ2.out _ HB5.out) (fun _=>?_)
     clear hK0 K0
     try simp only[Act.put]
     try simp only[List.getElem_toArray]
     try simp only[List.getElem_cons_succ]
     try simp only[List.getElem_cons_zero]
     try simp only[List.setIfInBounds_toArray,List.set_cons_succ,List.set_cons_zero]
     have B5:Hid (Below w.heap.size w w5):=HBX2.out.trans (HB5.out.mono HBX2.out.size)
     have hS5:=(HS.out.on B5.out hbw).mono (Nat.le_refl _) B5.out.size (Nat.le_refl _) (Nat.le_refl _) (Nat.le_refl _)
     obtain⟨w6,D6,hrun,hS6,hg6,hk6,hm6⟩:=hS5.put G2.out hn hbL (c:=w4.heap.size) (f:=fun y=>V T2 y+dlN m f y) (Nat.le_trans hL B4.out.size) HW5.out
     unfold tiV at hrun
     have HS6:=QQ1 hS6
     have HG6:=QQ1 hg6
     have HK6:=QQ1 hk6
     have HM6:=QQ1 hm6
     have ht6:TiAt w6 w.heap.size T2:=(hg6.block _ (by have:=B5.out.size;have:=(HQ2.out _ HB5.out).lt;omega) (fun e=>by have:=Option.some.inj e;omega)).trans (HQ2.out _ HB5.out)
     have HT6:=QQ1 ht6
     clear hS5 hS6 hg6 hk6 hm6 ht6
     refine rd1 12 ?_
     intro K0 hK0
     go_simp
     refine hK0.out _ _ HT6.out (fun _=>?_)
     clear hK0 K0
     refine wpAnyH_done (by kernel_rfl) ?_ _
     go_wp2
     exact bodyPost_end (results_none rfl _ _ _) rfl ⟨rfl, D6, HS6.out.congr (fun U _ => by
      by_cases e:U=T2
      · rw[if_pos e,if_pos e,e]
      · rw[if_neg e,if_neg e]),QG2 B5.out HG6.out hbw,HK6.out,HM6.out⟩
theorem Jj0 (L b n K M J Hf : Nat) (V : List Nat → Int → Int) (D : DataW Unit) (T : List Nat) (f : Int → Int) (c a0 a1 a2 a3 : Nat) (w : World) (hT : GoodK T) (h0 : a0 < 26) (h1 : a1 < 26) (h2 : a2 < 26) (h3 : a3 < 26) (hR : RingAt w) (hL : L ≤ w.heap.size) (hbL : b < L) (hn : n < 100000000)
    (hK:J+4<=K) (hK2:K<=900) (hM:M<=10000) (hS:SumD w L w.heap.size b n K (2*K+1) V D) (hf:WkV w w.heap.size (.map (some c)) M J f) (hH:(2*J+1)*(Hf*2)<=4000000000000000000) (hfb:∀ y,(f y).natAbs<=Hf) (hVb:∀ y,(V (t4 T a1 a2 a3 a0) y).natAbs<=1000000000000000000) (hdb:∀ y,(dlN (c4 T a1 a2 a3 a0) f y).natAbs<=1000000000000000000):
    Calls Tryd.prog 54 #[.map (some b),tiV T,.map (some c),.agg #[.int .i64 (a0:Nat),.int .i64 (a1:Nat),.int .i64 (a2:Nat),.int .i64 (a3:Nat)],.int .i64 1] w fun e w'=>e=.returned (.tuple #[])/\∃ D',SumD w' L w'.heap.size b (n+1) K (2*K+1) (fun U=>if U=t4 T a1 a2 a3 a0 then(fun y=>V U y+dlN (c4 T a1 a2 a3 a0) f y) else V U) D'/\w.grownBy w' (some b)/\(∀ l,keyOf Tryd.prog 78 (tiV (t4 T a1 a2 a3 a0))=some l->Maps.has D' l=true)/\(∀ kl,Maps.has D kl=true->Maps.has D' kl=true):=by
 obtain⟨T1,hT1⟩:∃ X,Qu8 T a1 a2=X:=⟨_,rfl⟩
 obtain⟨T2,hT2⟩:∃ X,Qu8 T1 a3 a0=X:=⟨_,rfl⟩
 obtain⟨n1,hn1⟩:∃ X,XF3 T a1 a2=X:=⟨_,rfl⟩
 obtain⟨n2,hn2⟩:∃ X,XF3 T1 a3 a0=X:=⟨_,rfl⟩
 have e4:t4 T a1 a2 a3 a0=T2:=by unfold t4;rw[hT1,hT2]
 have ec:c4 T a1 a2 a3 a0=n1+n2:=by unfold c4;rw[hn1,hT1,hn2]
 have hc2:n1+n2<=2:=by rw[<-ec];exact XF7 _ _ _ _ _
 obtain⟨m,hm⟩:∃ X,n1+n2=X:=⟨_,rfl⟩
 rw[e4]at hVb ⊢
 rw[ec,hm]at hdb ⊢
 rw[hm]at hc2
 have HMM:=QQ1 hm
 clear hm
 have g1:GoodK T1:=by rw[<-hT1];exact hT.tie _ _
 have g2:GoodK T2:=by rw[<-hT2];exact g1.tie _ _
 have HC1:Hid (∀ W,Calls Tryd.prog 70 #[.agg (tiA T),.int .i64 (a1:Nat),.int .i64 (a2:Nat)] W fun e w'=>e=.returned (.tuple #[.agg (tiA T1),.int .i64 (n1:Nat)])/\Below W.heap.size W w'):=fun W=>by rw[<-hT1,<-hn1];exact Qv9 T a1 a2 W hT (by omega) (by omega)
 have HC2:Hid (∀ W,Calls Tryd.prog 70 #[.agg (tiA T1),.int .i64 (a3:Nat),.int .i64 (a0:Nat)] W fun e w'=>e=.returned (.tuple #[.agg (tiA T2),.int .i64 (n2:Nat)])/\Below W.heap.size W w'):=fun W=>by rw[<-hT2,<-hn2];exact Qv9 T1 a3 a0 W g1 (by omega) (by omega)
 clear hT1 hT2 hn1 hn2 e4 ec
 have HT:=QQ1 hT
 have G1:=QQ1 g1
 have G2:=QQ1 g2
 have HR:=QQ1 hR
 have HS:=QQ1 hS
 have HF:=QQ1 hf
 have HFB:=QQ1 hfb
 have HVB:=QQ1 hVb
 have HDB:=QQ1 hdb
 have HH:=QQ1 hH
 have hbw:b<w.heap.size:=by omega
 clear hT g1 g2 hR hS hf hfb hVb hdb hH
 obtain⟨V0,hV0⟩:∃ X,(w.alloc (.cells (tiA T) 78)).alloc (.cells #[.int .i64 (a0:Nat),.int .i64 (a1:Nat),.int .i64 (a2:Nat),.int .i64 (a3:Nat)] 73)=X:=⟨_,rfl⟩
 have B0:Hid (Below w.heap.size w V0):=(by rw[<-hV0];exact((Below.refl _ _).alloc (Nat.le_refl _) _).alloc (by simp) _:Below w.heap.size w V0)
 have T0 : Hid (TiAt V0 w.heap.size T) := (by
  rw[<-hV0];unfold TiAt
  rw[heap_alloc_old _ _ (by simp),heap_alloc_new]:TiAt V0 w.heap.size T)
 have A0 : Hid (V0.heap[w.heap.size + 1]? = some (.cells #[.int .i64 (a0 : Nat), .int .i64 (a1 : Nat), .int .i64 (a2 : Nat), .int .i64 (a3 : Nat)] 73 (0, 0))) := (by
  rw[<-hV0]
  have:=heap_alloc_new (w.alloc (.cells (tiA T) 78)) (.cells #[.int .i64 (a0:Nat),.int .i64 (a1:Nat),.int .i64 (a2:Nat),.int .i64 (a3:Nat)] 73)
  rw[show(w.alloc (.cells (tiA T) 78)).heap.size=w.heap.size+1 by simp]at this
  exact this:V0.heap[w.heap.size+1]?=_)
 have s0:w.heap.size+1<V0.heap.size:=(Array.getElem?_eq_some_iff.1 A0.out).1
 have HV0:=QQ1 hV0
 clear hV0
 have HQ0:Hid (∀ W,Below V0.heap.size V0 W->(fun X:World=>X.cell? ⟨w.heap.size+1,0,none⟩=some (.int .i64 (a0:Nat))/\X.cell? ⟨w.heap.size+1,1,none⟩=some (.int .i64 (a1:Nat))/\X.cell? ⟨w.heap.size+1,2,none⟩=some (.int .i64 (a2:Nat))/\X.cell? ⟨w.heap.size+1,3,none⟩=some (.int .i64 (a3:Nat))) W):=fun W hW=>arF ((hW.block _ s0).trans A0.out)
 have HD0:Hid (Below V0.heap.size V0 V0.drew):=(Below.refl _ _).drew
 unfold tiV
 go_enter Tryd.func54,Tryd.ntmps54
 go_upto_region 1 with(fail)
 rw[HV0.out]
 refine rhd HQ0 HD0.out (fun hHeld=>?_)
 have x1:IntKind.i64.wrap 1=1:=by decide
 have x2:IntKind.i64.wrap 2=2:=by decide
 refine tq 14 1 (h:=?_)
 refine tq 15 2 (h:=?_)
 refine tq 16 3 (h:=?_)
 refine tq 17 4 (h:=?_)
 refine tq 18 5 (h:=?_)
 refine tq 19 6 (h:=?_)
 refine tq 20 7 (h:=?_)
 simp only[List.setIfInBounds_toArray,List.set_cons_succ,List.set_cons_zero]
 clear hHeld x1 x2
 refine rd1 0 ?_
 intro K0 hK0
 refine wp_load_row 78 _ rfl w.heap.size rfl 78 _ (0,0) _ (T0.out.on HD0.out (by omega)) Tryd.underlying78 rfl (QV0 HT.out) ?_
 refine hK0.out _ _ (HQ0.out _ HD0.out) (fun _=>?_)
 clear hK0 K0
 try simp only[Act.put]
 try simp only[List.getElem_toArray]
 try simp only[List.getElem_cons_succ]
 try simp only[List.getElem_cons_zero]
 try simp only[List.setIfInBounds_toArray,List.set_cons_succ,List.set_cons_zero]
 refine rd1 8 ?_
 intro K0 hK0
 go_simp
 go_wp2_with (go_at_call 70;refine(HC1.out _).mono ?_;rintro e9 w1 ⟨rfl,hb1⟩)
 have HB1:=QQ1 (HD0.out.trans (hb1.mono HD0.out.size))
 clear hb1
 refine hK0.out _ _ (HQ0.out _ HB1.out) (fun hHeld=>?_)
 clear hK0 K0
 try simp only[Act.put]
 try simp only[List.getElem_toArray]
 try simp only[List.getElem_cons_succ]
 try simp only[List.getElem_cons_zero]
 try  refine tq 12 9 (h:=?_)
 refine tq 22 10 (h:=?_)
 refine tq 23 11 (h:=?_)
 simp only[List.setIfInBounds_toArray,List.set_cons_succ,List.set_cons_zero]
 clear hHeld
 have TI1:Hid (TiAt w1 w.heap.size T):=T0.out.on HB1.out (by omega)
 have hX1:TiAt (w1.setRow w.heap.size (tiA T1)) w.heap.size T1:=TI1.out.row
 have hA1:(w1.setRow w.heap.size (tiA T1)).heap[w.heap.size+1]?=_:=(setRow_other (by omega)).trans ((HB1.out.block _ s0).trans A0.out)
 have hB1:Below w.heap.size w (w1.setRow w.heap.size (tiA T1)):=QJ1 (B0.out.trans (HB1.out.mono B0.out.size)) (Nat.le_refl _)
 refine rd1 12 ?_
 intro K0 hK0
 refine wp_store_row 78 _ _ rfl w.heap.size (tiA T1) rfl rfl 78 _ TI1.out (QV0 G1.out) (by rw[QZ3 HT.out,QZ3 G1.out]) (QC5 _) ?_
 refine hK0.out _ _ (arF hA1) (fun hHeld=>?_)
 clear hK0 K0
 generalize w1.setRow w.heap.size (tiA T1)=X1 at*
 try simp only[Act.put]
 try simp only[List.getElem_toArray]
 try simp only[List.getElem_cons_succ]
 try simp only[List.getElem_cons_zero]
 try  refine tq 10 13 (h:=?_)
 simp only[List.setIfInBounds_toArray,List.set_cons_succ,List.set_cons_zero]
 refine wpAnyH_done (by kernel_rfl) ?_ _
 clear hHeld
 have HX1:=QQ1 hX1
 have HA1:=QQ1 hA1
 have HBX1:=QQ1 hB1
 have s1:w.heap.size+1<X1.heap.size:=(Array.getElem?_eq_some_iff.1 hA1).1
 clear hX1 hA1 hB1 TI1 HB1 HQ0 HD0 T0 A0 B0 HV0 s0
 have HQ1:Hid (∀ W,Below X1.heap.size X1 W->(fun X:World=>X.cell? ⟨w.heap.size+1,0,none⟩=some (.int .i64 (a0:Nat))/\X.cell? ⟨w.heap.size+1,1,none⟩=some (.int .i64 (a1:Nat))/\X.cell? ⟨w.heap.size+1,2,none⟩=some (.int .i64 (a2:Nat))/\X.cell? ⟨w.heap.size+1,3,none⟩=some (.int .i64 (a3:Nat))) W):=fun W hW=>arF ((hW.block _ s1).trans HA1.out)
 have HD1:Hid (Below X1.heap.size X1 X1.drew):=(Below.refl _ _).drew
 go_upto_region 2 with(fail)
 refine rhd HQ1 HD1.out (fun hHeld=>?_)
 have x2:IntKind.i64.wrap 2=2:=by decide
 have x3:IntKind.i64.wrap 3=3:=by decide
 have x4:IntKind.i64.wrap 4=4:=by decide
 have x0:IntKind.i64.wrap 0=0:=by decide
 have m3:Int.tmod 3 4=3:=by decide
 have m4:Int.tmod 4 4=0:=by decide
 refine tq 26 1 (h:=?_)
 refine tq 27 2 (h:=?_)
 refine tq 28 3 (h:=?_)
 refine tq 29 4 (h:=?_)
 refine tq 30 5 (h:=?_)
 refine tq 31 6 (h:=?_)
 refine tq 32 7 (h:=?_)
 refine tq 33 8 (h:=?_)
 refine tq 34 9 (h:=?_)
 simp only[List.setIfInBounds_toArray,List.set_cons_succ,List.set_cons_zero]
 clear hHeld x2 x3 x4 x0 m3 m4
 refine rd1 0 ?_
 intro K0 hK0
 refine wp_load_row 78 _ rfl w.heap.size rfl 78 _ (0,0) _ (HX1.out.on HD1.out (by omega)) Tryd.underlying78 rfl (QV0 G1.out) ?_
 refine hK0.out _ _ (HQ1.out _ HD1.out) (fun _=>?_)
 clear hK0 K0
 try simp only[Act.put]
 try simp only[List.getElem_toArray]
 try simp only[List.getElem_cons_succ]
 try simp only[List.getElem_cons_zero]
 try simp only[List.setIfInBounds_toArray,List.set_cons_succ,List.set_cons_zero]
 refine rd1 10 ?_
 intro K0 hK0
 go_simp
 go_wp2_with (go_at_call 70;refine(HC2.out _).mono ?_;rintro e9 w2 ⟨rfl,hb2⟩)
 have HB2:=QQ1 (HD1.out.trans (hb2.mono HD1.out.size))
 clear hb2
 refine hK0.out _ _ (HQ1.out _ HB2.out) (fun hHeld=>?_)
 clear hK0 K0
 try simp only[Act.put]
 try simp only[List.getElem_toArray]
 try simp only[List.getElem_cons_succ]
 try simp only[List.getElem_cons_zero]
 try  refine tq 24 11 (h:=?_)
 refine tq 36 12 (h:=?_)
 refine tq 37 13 (h:=?_)
 simp only[List.setIfInBounds_toArray,List.set_cons_succ,List.set_cons_zero]
 clear hHeld
 have TI2:Hid (TiAt w2 w.heap.size T1):=HX1.out.on HB2.out (by omega)
 have hX2:TiAt (w2.setRow w.heap.size (tiA T2)) w.heap.size T2:=TI2.out.row
 have hA2:(w2.setRow w.heap.size (tiA T2)).heap[w.heap.size+1]?=_:=(setRow_other (by omega)).trans ((HB2.out.block _ s1).trans HA1.out)
 have hB2:Below w.heap.size w (w2.setRow w.heap.size (tiA T2)):=QJ1 (HBX1.out.trans (HB2.out.mono HBX1.out.size)) (Nat.le_refl _)
 refine rd1 14 ?_
 intro K0 hK0
 refine wp_store_row 78 _ _ rfl w.heap.size (tiA T2) rfl rfl 78 _ TI2.out (QV0 G2.out) (by rw[QZ3 G1.out,QZ3 G2.out]) (QC5 _) ?_
 refine hK0.out _ _ (arF hA2) (fun hHeld=>?_)
 clear hK0 K0
 generalize w2.setRow w.heap.size (tiA T2)=X2 at*
 try simp only[Act.put]
 try simp only[List.getElem_toArray]
 try simp only[List.getElem_cons_succ]
 try simp only[List.getElem_cons_zero]
 try  refine tq 11 15 (h:=?_)
 simp only[List.setIfInBounds_toArray,List.set_cons_succ,List.set_cons_zero]
 refine wpAnyH_done (by kernel_rfl) ?_ _
 have HX2:=QQ1 hX2
 have HBX2:=QQ1 hB2
 have s2:w.heap.size+1<X2.heap.size:=(Array.getElem?_eq_some_iff.1 hA2).1
 clear hHeld hX2 hA2 hB2 TI2 HB2 HQ1 HD1 HX1 HA1 HBX1 s1
 have hS2:=HS.out.on HBX2.out hbw
 obtain⟨v,hv1,hv2⟩:=hS2.look2 G2.out hbw
 have HV1:=QQ1 hv1
 have HQ2:Hid (∀ W,Below X2.heap.size X2 W->(fun X:World=>TiAt X w.heap.size T2) W):=fun W hW=>HX2.out.on hW (by omega)
 have HLK:Hid (∀ W,Below X2.heap.size X2 W->(Instr.lookup 81 (.map (some b)) (.agg (tiA T2)) false).run Tryd.prog W=.ok v W):=fun W hW=>hv2 W (hW.mono (by omega))
 have HS2:=QQ1 hS2
 have HD2:Hid (Below X2.heap.size X2 X2.drew):=(Below.refl _ _).drew
 clear hv1 hv2 hS2
 go_upto_region 3 with(fail)
 refine rhd HQ2 HD2.out (fun hHeld=>?_)
 have x5:IntKind.i64.wrap ((n1:Int)+(n2:Int))=(m:Int):=by rw[show((n1:Int)+(n2:Int))=(m:Int) by have:=HMM.out;omega];exact wrap_small (by omega)
 refine tq 38 0 (h:=?_)
 refine tq 39 1 (hy:=fun W hW=>Qd2 78 _ rfl w.heap.size rfl 78 _ (0,0) _ hW Tryd.underlying78 rfl (QV0 G2.out)) (h:=?_)
 refine tq 40 2 (h:=?_)
 refine tq 41 3 (hy:=fun W hW=>Qd2 78 _ rfl w.heap.size rfl 78 _ (0,0) _ hW Tryd.underlying78 rfl (QV0 G2.out)) (h:=?_)
 refine tq 43 5 (h:=?_)
 refine tq 44 6 (h:=?_)
 refine tq 45 7 (h:=?_)
 refine tq 46 8 (h:=?_)
 simp only[List.setIfInBounds_toArray,List.set_cons_succ,List.set_cons_zero]
 clear hHeld x5
 have HRX:Hid (RingAt X2.drew):=HR.out.any (HBX2.out.trans (HD2.out.mono HBX2.out.size))
 have HG:=QQ1 (rings_any m X2.drew (by omega) HRX.out)
 refine rd2 4 9 ?_ ?_
 · intro K0 hK0
   have hlk:=HLK.out _ HD2.out
   go_simp
   refine hK0.out _ _ (HQ2.out _ HD2.out) (fun _=>?_)
   clear hK0 K0 hlk
   try simp only[Act.put]
   try simp only[List.getElem_toArray]
   try simp only[List.getElem_cons_succ]
   try simp only[List.getElem_cons_zero]
   try simp only[List.setIfInBounds_toArray,List.set_cons_succ,List.set_cons_zero]
   refine rd1 9 ?_
   intro K0 hK0
   go_simp
   go_wp2_with (go_at_call 35;refine HG.out.mono ?_;rintro e9 w3 ⟨c3,rfl,hc3,hw3,hb3⟩)
   have HB3:=QQ1 (HD2.out.trans (hb3.mono HD2.out.size))
   have HW3:=QQ1 hw3
   clear hb3 hw3
   refine hK0.out _ _ (HQ2.out _ HB3.out) (fun _=>?_)
   clear hK0 K0
   try simp only[Act.put]
   try simp only[List.getElem_toArray]
   try simp only[List.getElem_cons_succ]
   try simp only[List.getElem_cons_zero]
   try simp only[List.setIfInBounds_toArray,List.set_cons_succ,List.set_cons_zero]
   have B3:Hid (Below w.heap.size w w3):=HBX2.out.trans (HB3.out.mono HBX2.out.size)
   have HTM:=QQ1 (QY7 (.map (some c)) (.map (some c3)) M (2*(2*m)+1) J (2*m) Hf 2 (rgL m) f (dlN m QJ2) w3 (by omega) (by omega) (by omega) HH.out HFB.out (ZZ3 hc2) ((HF.out.on B3.out).mono B3.out.size (Nat.le_refl _) (Nat.le_refl _)) HW3.out (by simp) (Qv0 hc2))
   refine rd1 10 ?_
   intro K0 hK0
   go_simp
   go_wp2_with (go_at_call 17;refine HTM.out.mono ?_;rintro e9 w4 ⟨rfl,hw4,hb4⟩)
   have HB4:=QQ1 (HB3.out.trans (hb4.mono HB3.out.size))
   rw[QH9 hc2]at hw4
   have HW4:=QQ1 (hw4.mono (Nat.le_refl _) (show 2*(J+2*m)+1<=2*K+1 by omega) (show J+2*m<=K by omega))
   clear hb4 hw4
   refine hK0.out _ _ (HQ2.out _ HB4.out) (fun _=>?_)
   clear hK0 K0
   try simp only[Act.put]
   try simp only[List.getElem_toArray]
   try simp only[List.getElem_cons_succ]
   try simp only[List.getElem_cons_zero]
   try simp only[List.setIfInBounds_toArray,List.set_cons_succ,List.set_cons_zero]
   have B4:Hid (Below w.heap.size w w4):=HBX2.out.trans (HB4.out.mono HBX2.out.size)
   have hwv:=(HV1.out.on (HB4.out.mono (by omega:w.heap.size<=X2.heap.size))).mono B4.out.size (Nat.le_refl _) (Nat.le_refl _)
   have HPL:=QQ1 (QA2 v (.map (some w3.heap.size)) (2*K+1) (2*K+1) K (V T2) (dlN m f) w4 (by omega) (by omega) hK2 HVB.out HDB.out hwv HW4.out (by simp))
   clear hwv
   refine rd1 11 ?_
   intro K0 hK0
   go_simp
   go_wp2_with (go_at_call 55;refine HPL.out.mono ?_;rintro e9 w5 ⟨rfl,hw5,hb5⟩)
   have HB5:=QQ1 (HB4.out.trans (hb5.mono HB4.out.size))
   have HW5:=QQ1 hw5
   clear hb5 hw5 HPL
   refine hK0.out _ _ (HQ2.out _ HB5.out) (fun _=>?_)
   clear hK0 K0
   try simp only[Act.put]
   try simp only[List.getElem_toArray]
   try simp only[List.getElem_cons_succ]
   try simp only[List.getElem_cons_zero]
   try simp only[List.setIfInBounds_toArray,List.set_cons_succ,List.set_cons_zero]
   have B5:Hid (Below w.heap.size w w5):=HBX2.out.trans (HB5.out.mono HBX2.out.size)
   have hS5:=(HS.out.on B5.out hbw).mono (Nat.le_refl _) B5.out.size (Nat.le_refl _) (Nat.le_refl _) (Nat.le_refl _)
   obtain⟨w6,D6,hrun,hS6,hg6,hk6,hm6⟩:=hS5.put G2.out hn hbL (c:=w4.heap.size) (f:=fun y=>V T2 y+dlN m f y) (Nat.le_trans hL B4.out.size) HW5.out
   unfold tiV at hrun
   have HS6:=QQ1 hS6
   have HG6:=QQ1 hg6
   have HK6:=QQ1 hk6
   have HM6:=QQ1 hm6
   have ht6:TiAt w6 w.heap.size T2:=(hg6.block _ (by have:=B5.out.size;have:=(HQ2.out _ HB5.out).lt;omega) (fun e=>by have:=Option.some.inj e;omega)).trans (HQ2.out _ HB5.out)
   have HT6:=QQ1 ht6
   clear hS5 hS6 hg6 hk6 hm6 ht6
   refine rd1 12 ?_
   intro K0 hK0
   go_simp
   refine hK0.out _ _ HT6.out (fun _=>?_)
   clear hK0 K0
   refine wpAnyH_done (by kernel_rfl) ?_ _
   go_wp2
   exact bodyPost_end (results_none rfl _ _ _) rfl ⟨rfl, D6, HS6.out.congr (fun U _ => by
    by_cases e:U=T2
    · rw[if_pos e,if_pos e,e]
    · rw[if_neg e,if_neg e]),QG2 B5.out HG6.out hbw,HK6.out,HM6.out⟩
 · intro K0 hK0
   go_simp
   go_wp2_with (go_at_call 35;refine HG.out.mono ?_;rintro e9 w3 ⟨c3,rfl,hc3,hw3,hb3⟩)
   have HB3:=QQ1 (HD2.out.trans (hb3.mono HD2.out.size))
   have HW3:=QQ1 hw3
   clear hb3 hw3
   refine hK0.out _ _ (HQ2.out _ HB3.out) (fun _=>?_)
   clear hK0 K0
   try simp only[Act.put]
   try simp only[List.getElem_toArray]
   try simp only[List.getElem_cons_succ]
   try simp only[List.getElem_cons_zero]
   try simp only[List.setIfInBounds_toArray,List.set_cons_succ,List.set_cons_zero]
   have B3:Hid (Below w.heap.size w w3):=HBX2.out.trans (HB3.out.mono HBX2.out.size)
   have HTM:=QQ1 (QY7 (.map (some c)) (.map (some c3)) M (2*(2*m)+1) J (2*m) Hf 2 (rgL m) f (dlN m QJ2) w3 (by omega) (by omega) (by omega) HH.out HFB.out (ZZ3 hc2) ((HF.out.on B3.out).mono B3.out.size (Nat.le_refl _) (Nat.le_refl _)) HW3.out (by simp) (Qv0 hc2))
   refine rd2 4 10 ?_ ?_
   · intro K0 hK0
     have hlk:=HLK.out _ HB3.out
     go_simp
     refine hK0.out _ _ (HQ2.out _ HB3.out) (fun _=>?_)
     clear hK0 K0 hlk
     try simp only[Act.put]
     try simp only[List.getElem_toArray]
     try simp only[List.getElem_cons_succ]
     try simp only[List.getElem_cons_zero]
     try simp only[List.setIfInBounds_toArray,List.set_cons_succ,List.set_cons_zero]
     refine rd1 10 ?_
     intro K0 hK0
     go_simp
     go_wp2_with (go_at_call 17;refine HTM.out.mono ?_;rintro e9 w4 ⟨rfl,hw4,hb4⟩)
     have HB4:=QQ1 (HB3.out.trans (hb4.mono HB3.out.size))
     rw[QH9 hc2]at hw4
     have HW4:=QQ1 (hw4.mono (Nat.le_refl _) (show 2*(J+2*m)+1<=2*K+1 by omega) (show J+2*m<=K by omega))
     clear hb4 hw4
     refine hK0.out _ _ (HQ2.out _ HB4.out) (fun _=>?_)
     clear hK0 K0
     try simp only[Act.put]
     try simp only[List.getElem_toArray]
     try simp only[List.getElem_cons_succ]
     try simp only[List.getElem_cons_zero]
     try simp only[List.setIfInBounds_toArray,List.set_cons_succ,List.set_cons_zero]
     have B4:Hid (Below w.heap.size w w4):=HBX2.out.trans (HB4.out.mono HBX2.out.size)
     have hwv:=(HV1.out.on (HB4.out.mono (by omega:w.heap.size<=X2.heap.size))).mono B4.out.size (Nat.le_refl _) (Nat.le_refl _)
     have HPL:=QQ1 (QA2 v (.map (some w3.heap.size)) (2*K+1) (2*K+1) K (V T2) (dlN m f) w4 (by omega) (by omega) hK2 HVB.out HDB.out hwv HW4.out (by simp))
     clear hwv
     refine rd1 11 ?_
     intro K0 hK0
     go_simp
     go_wp2_with (go_at_call 55;refine HPL.out.mono ?_;rintro e9 w5 ⟨rfl,hw5,hb5⟩)
     have HB5:=QQ1 (HB4.out.trans (hb5.mono HB4.out.size))
     have HW5:=QQ1 hw5
     clear hb5 hw5 HPL
     refine hK0.out _ _ (HQ2.out _ HB5.out) (fun _=>?_)
     clear hK0 K0
     try simp only[Act.put]
     try simp only[List.getElem_toArray]
     try simp only[List.getElem_cons_succ]
     try simp only[List.getElem_cons_zero]
     try simp only[List.setIfInBounds_toArray,List.set_cons_succ,List.set_cons_zero]
     have B5:Hid (Below w.heap.size w w5):=HBX2.out.trans (HB5.out.mono HBX2.out.size)
     have hS5:=(HS.out.on B5.out hbw).mono (Nat.le_refl _) B5.out.size (Nat.le_refl _) (Nat.le_refl _) (Nat.le_refl _)
     obtain⟨w6,D6,hrun,hS6,hg6,hk6,hm6⟩:=hS5.put G2.out hn hbL (c:=w4.heap.size) (f:=fun y=>V T2 y+dlN m f y) (Nat.le_trans hL B4.out.size) HW5.out
     unfold tiV at hrun
     have HS6:=QQ1 hS6
     have HG6:=QQ1 hg6
     have HK6:=QQ1 hk6
     have HM6:=QQ1 hm6
     have ht6:TiAt w6 w.heap.size T2:=(hg6.block _ (by have:=B5.out.size;have:=(HQ2.out _ HB5.out).lt;omega) (fun e=>by have:=Option.some.inj e;omega)).trans (HQ2.out _ HB5.out)
     have HT6:=QQ1 ht6
     clear hS5 hS6 hg6 hk6 hm6 ht6
     refine rd1 12 ?_
     intro K0 hK0
     go_simp
     refine hK0.out _ _ HT6.out (fun _=>?_)
     clear hK0 K0
     refine wpAnyH_done (by kernel_rfl) ?_ _
     go_wp2
     exact bodyPost_end (results_none rfl _ _ _) rfl ⟨rfl, D6, HS6.out.congr (fun U _ => by
      by_cases e:U=T2
      · rw[if_pos e,if_pos e,e]
      · rw[if_neg e,if_neg e]),QG2 B5.out HG6.out hbw,HK6.out,HM6.out⟩
   · intro K0 hK0
     go_simp
     go_wp2_with (go_at_call 17;refine HTM.out.mono ?_;rintro e9 w4 ⟨rfl,hw4,hb4⟩)
     have HB4:=QQ1 (HB3.out.trans (hb4.mono HB3.out.size))
     rw[QH9 hc2]at hw4
     have HW4:=QQ1 (hw4.mono (Nat.le_refl _) (show 2*(J+2*m)+1<=2*K+1 by omega) (show J+2*m<=K by omega))
     clear hb4 hw4
     refine hK0.out _ _ (HQ2.out _ HB4.out) (fun _=>?_)
     clear hK0 K0
     try simp only[Act.put]
     try simp only[List.getElem_toArray]
     try simp only[List.getElem_cons_succ]
     try simp only[List.getElem_cons_zero]
     try simp only[List.setIfInBounds_toArray,List.set_cons_succ,List.set_cons_zero]
     refine rd1 4 ?_
     intro K0 hK0
     have hlk:=HLK.out _ HB4.out
     go_simp
     refine hK0.out _ _ (HQ2.out _ HB4.out) (fun _=>?_)
     clear hK0 K0 hlk
     try simp only[Act.put]
     try simp only[List.getElem_toArray]
     try simp only[List.getElem_cons_succ]
     try simp only[List.getElem_cons_zero]
     try simp only[List.setIfInBounds_toArray,List.set_cons_succ,List.set_cons_zero]
     have B4:Hid (Below w.heap.size w w4):=HBX2.out.trans (HB4.out.mono HBX2.out.size)
     have hwv:=(HV1.out.on (HB4.out.mono (by omega:w.heap.size<=X2.heap.size))).mono B4.out.size (Nat.le_refl _) (Nat.le_refl _)
     have HPL:=QQ1 (QA2 v (.map (some w3.heap.size)) (2*K+1) (2*K+1) K (V T2) (dlN m f) w4 (by omega) (by omega) hK2 HVB.out HDB.out hwv HW4.out (by simp))
     clear hwv
     refine rd1 11 ?_
     intro K0 hK0
     go_simp
     go_wp2_with (go_at_call 55;refine HPL.out.mono ?_;rintro e9 w5 ⟨rfl,hw5,hb5⟩)
     have HB5:=QQ1 (HB4.out.trans (hb5.mono HB4.out.size))
     have HW5:=QQ1 hw5
     clear hb5 hw5 HPL
     refine hK0.out _ _ (HQ2.out _ HB5.out) (fun _=>?_)
     clear hK0 K0
     try simp only[Act.put]
     try simp only[List.getElem_toArray]
     try simp only[List.getElem_cons_succ]
     try simp only[List.getElem_cons_zero]
     try simp only[List.setIfInBounds_toArray,List.set_cons_succ,List.set_cons_zero]
     have B5:Hid (Below w.heap.size w w5):=HBX2.out.trans (HB5.out.mono HBX2.out.size)
     have hS5:=(HS.out.on B5.out hbw).mono (Nat.le_refl _) B5.out.size (Nat.le_refl _) (Nat.le_refl _) (Nat.le_refl _)
     obtain⟨w6,D6,hrun,hS6,hg6,hk6,hm6⟩:=hS5.put G2.out hn hbL (c:=w4.heap.size) (f:=fun y=>V T2 y+dlN m f y) (Nat.le_trans hL B4.out.size) HW5.out
     unfold tiV at hrun
     have HS6:=QQ1 hS6
     have HG6:=QQ1 hg6
     have HK6:=QQ1 hk6
     have HM6:=QQ1 hm6
     have ht6:TiAt w6 w.heap.size T2:=(hg6.block _ (by have:=B5.out.size;have:=(HQ2.out _ HB5.out).lt;omega) (fun e=>by have:=Option.some.inj e;omega)).trans (HQ2.out _ HB5.out)
     have HT6:=QQ1 ht6
     clear hS5 hS6 hg6 hk6 hm6 ht6
     refine rd1 12 ?_
     intro K0 hK0
     go_simp
     refine hK0.out _ _ HT6.out (fun _=>?_)
     clear hK0 K0
     refine wpAnyH_done (by kernel_rfl) ?_ _
     go_wp2
     exact bodyPost_end (results_none rfl _ _ _) rfl ⟨rfl, D6, HS6.out.congr (fun U _ => by
      by_cases e:U=T2
      · rw[if_pos e,if_pos e,e]
      · rw[if_neg e,if_neg e]),QG2 B5.out HG6.out hbw,HK6.out,HM6.out⟩
end Go.Proofs.YtjcagkgpbcdghaaDoor.Poly
/- The walk of bracket.sums.undone. -/
namespace Go.Proofs.YtjcagkgpbcdghaaDoor.Poly
open Go.RowKit Go.Maps
set_option maxHeartbeats 16000000
set_option maxRecDepth 100000
def dnF (kf:List Nat->Option Lit) (left:Lit->Bool) (T:List Nat):Bool:=match kf T with|some l=>!left l|none=>true
theorem Qj9 {kf:List Nat->Option Lit} {left:Lit->Bool} {T:List Nat} {l:Lit} (h:kf T=some l):dnF kf left T=!left l:=by unfold dnF;rw[h]
theorem ZV0 {a b:Lit} (ha:WideAt.IsKeyLit a):a.sameKey b=true↔a=b:=by
 cases a<;>cases b<;>simp_all [Lit.sameKey,WideAt.IsKeyLit]
theorem XC0 {kf:List Nat->Option Lit} (hkf:∀ T,kf T=keyOf Tryd.prog 78 (tiV T)) {left:Lit->Bool} {T:List Nat} {kl:Lit} (hT:keyOf Tryd.prog 78 (tiV T)=some kl) (U:List Nat) (hU:GoodK U):dnF kf (fun z=>left z&&!z.sameKey kl) U=true↔dnF kf left U=true∨U=T:=by
 obtain⟨lu,hlu⟩:=keyT hU
 have hk2:=(hkf U).trans hlu
 rw[Qj9 hk2,Qj9 hk2]
 have hk:=lawT.key hlu
 by_cases e:U=T
 · subst e
   rw[hT]at hlu
   obtain rfl:=Option.some.inj hlu
   have:kl.sameKey kl=true:=(ZV0 hk).2 rfl
   simp[this]
 · have hne:lu≠kl:=fun h0=>e (Xb3 (lawT.inj hlu (h0▸hT)))
   have:lu.sameKey kl=false:=by
    cases h:lu.sameKey kl with
    |false=>rfl
    |true=>exact absurd ((ZV0 hk).1 h) hne
   simp[this,e]
theorem Kk5 (e:Int) (f:Int->Int):QQ5 [(e,1)] f=shA e f:=by
 funext y
 show 1*f (y-e)+0=f (y-e)
 omega
theorem Kv6 (e y:Int):(coefL [(e,1)] y).natAbs<=1:=by
 rw[QC9];split<;>decide
theorem XY6 (C : List Cr) (c0 k b n KK : Nat) (D : DataW Unit) (a0 a1 a2 a3 : Nat) (w : World) (hc0 : c0 ≤ 16) (hk : k ≤ 11) (hn : n ≤ 4096) (hKK : KK = 2 * c0 + 5 * k) (e0 : arQ C k 0 = a0) (e1 : arQ C k 1 = a1) (e2 : arQ C k 2 = a2) (e3 : arQ C k 3 = a3) (h0 : a0 < 26) (h1 : a1 < 26) (h2 : a2 < 26) (h3 : a3 < 26)
    (hR:RingAt w) (hS:SumD w 0 w.heap.size b n KK (2*KK+1) (mS C c0 k) D) (hcv:∀ s l,s<2 ^ k->keyOf Tryd.prog 78 (tiV (kyS C s k))=some l->Maps.has D l=true):
    Calls Tryd.prog 37 #[.map (some b),.agg #[.int .i64 (a0:Nat),.int .i64 (a1:Nat),.int .i64 (a2:Nat),.int .i64 (a3:Nat)]] w fun e w'=>∃ (c:Nat) (D':DataW Unit),e=.returned (.map (some c))/\SumD w' 0 w'.heap.size c (2*n) (KK+5) (2*(KK+5)+1) (mS C c0 (k+1)) D'/\(∀ s l,s<2 ^ (k+1)->keyOf Tryd.prog 78 (tiV (kyS C s (k+1)))=some l->Maps.has D' l=true)/\Below w.heap.size w w':=by
 have hbw:=hS.own.lt
 have hsz:=hS.own.size_le
 have hKb:KK<=87:=by omega
 have HA:Hid (∀ T,tA C k T=t4 T a0 a1 a2 a3/\cA C k T=c4 T a0 a1 a2 a3/\tB C k T=t4 T a1 a2 a3 a0/\cB C k T=c4 T a1 a2 a3 a0):=fun T=>by unfold tA cA tB cB;rw[e0,e1,e2,e3];exact⟨rfl,rfl,rfl,rfl⟩
 have hp49:2 ^ (c0+3*k)<=2 ^ 49:=Nat.pow_le_pow_right (by omega) (by omega)
 have hp52:2 ^ (c0+3*k+3)<=2 ^ 52:=Nat.pow_le_pow_right (by omega) (by omega)
 have HH1:Hid ((2*KK+1)*(2 ^ (c0+3*k)*1)<=4000000000000000000):=(Nat.le_trans (Nat.mul_le_mul (show 2*KK+1<=200 by omega) (show 2 ^ (c0+3*k)*1<=2 ^ 49 by omega)) (by decide):(2*KK+1)*(2 ^ (c0+3*k)*1)<=4000000000000000000)
 have HH2:Hid ((2*(KK+1)+1)*(2 ^ (c0+3*k)*2)<=4000000000000000000):=(Nat.le_trans (Nat.mul_le_mul (show 2*(KK+1)+1<=200 by omega) (show 2 ^ (c0+3*k)*2<=2 ^ 50 by omega)) (by decide):(2*(KK+1)+1)*(2 ^ (c0+3*k)*2)<=4000000000000000000)
 have HDS:Hid (∀ (T:List Nat) (e:Int) (c:Nat),c<=2->∀ y,(dlN c (shA e (mS C c0 k T)) y).natAbs<=2 ^ 51):=fun T e c hc y=>by
  have h:=ZK0 (f:=shA e (mS C c0 k T)) (H:=2 ^ (c0+3*k)) (fun y=>JU0 C c0 k T (y-e)) c y
  have h2:2 ^ c<=2 ^ 2:=Nat.pow_le_pow_right (by omega) hc
  exact Nat.le_trans h (Nat.le_trans (Nat.mul_le_mul h2 hp49) (by decide))
 have HUB:Hid (∀ (dn:List Nat->Bool) (U:List Nat) (y:Int),(Xq5 C c0 k dn U y).natAbs<=2 ^ 52):=fun dn U y=>Nat.le_trans (Kd6 C c0 k dn U y) hp52
 obtain⟨kf,hkf⟩:∃ kf:List Nat->Option Lit,∀ T,kf T=keyOf Tryd.prog 78 (tiV T):=⟨_,fun _=>rfl⟩
 have HKF:=QQ1 hkf
 have HKK:=QQ1 hKK
 have HS:=QQ1 hS
 have HCV:=QQ1 hcv
 have HRG:=QQ1 hR
 have hmm:∀ w:World,(Instr.makeMap 81 none).run Tryd.prog w=.ok (.map (some w.heap.size)) (w.alloc (.map #[] 0)):=fun _=>rfl
 clear e0 e1 e2 e3 hp49 hp52 hKK hS hcv hR hkf
 obtain⟨Z,hZ⟩:∃ Z,Z=(w.alloc (.cells #[.int .i64 (a0:Nat),.int .i64 (a1:Nat),.int .i64 (a2:Nat),.int .i64 (a3:Nat)] 73)).alloc (.map #[] 0):=⟨_,rfl⟩
 have HZ:=QQ1 hZ
 have sZ:Z.heap.size=w.heap.size+2:=by rw[hZ];simp
 have BZ:Hid (Below w.heap.size w Z):=(by rw[hZ];exact((Below.refl _ _).alloc (Nat.le_refl _) _).alloc (by simp) _:Below w.heap.size w Z)
 have RZ:Hid (Z.heap[w.heap.size]?=some (.cells #[.int .i64 (a0:Nat),.int .i64 (a1:Nat),.int .i64 (a2:Nat),.int .i64 (a3:Nat)] 73 (0,0))):=(by rw[hZ,heap_alloc_old _ _ (by simp),heap_alloc_new]:Z.heap[w.heap.size]?=some (.cells #[.int .i64 (a0:Nat),.int .i64 (a1:Nat),.int .i64 (a2:Nat),.int .i64 (a3:Nat)] 73 (0,0)))
 have SZ : Hid (SumD Z (w.heap.size + 3) Z.heap.size (w.heap.size + 1) 0 (KK + 5) (2 * (KK + 5) + 1) (fun _ _ => 0) (.map [])) := (by
  have:=SumD.made (w.alloc (.cells #[.int .i64 (a0:Nat),.int .i64 (a1:Nat),.int .i64 (a2:Nat),.int .i64 (a3:Nat)] 73)) (w.heap.size+3) Z.heap.size (KK+5) (2*(KK+5)+1)
  rw[show(w.alloc (.cells #[.int .i64 (a0:Nat),.int .i64 (a1:Nat),.int .i64 (a2:Nat),.int .i64 (a3:Nat)] 73)).heap.size=w.heap.size+1 by simp,<-hZ]at this
  exact this:SumD Z (w.heap.size+3) Z.heap.size (w.heap.size+1) 0 (KK+5) (2*(KK+5)+1) (fun _ _=>0) (.map []))
 have OZ:Hid (Z.ownsMap Tryd.prog 78 Xy4 b n D):=(HS.out.on BZ.out hbw).own
 clear hZ
 go_enter Tryd.func37,Tryd.ntmps37
 go_upto_region 2 with(fail)
 rw[<-HZ.out]
 go_wp2_with (first
  |(at_range;refine wpList_range_own _ rfl _ 81 rfl 78 50 lawT Tryd.underlying81 Xy4 b n _ rfl OZ.out ?_;intro w0 hrg0 hg0 hs0))
 try go_frame
 rw[sZ]at hrg0 hs0 ⊢
 have B0:Below w.heap.size w w0:=BZ.out.grown hg0 (by omega) (fun j hj=>by cases hj)
 have hS0:SumD w0 (w.heap.size+3) w0.heap.size (w.heap.size+1) 0 (KK+5) (2*(KK+5)+1) (Xq5 C c0 k (dnF kf (Maps.has D))) (.map []):=by
  have h1:SumD w0 (w.heap.size+3) w0.heap.size (w.heap.size+1) 0 (KK+5) (2*(KK+5)+1) (fun _ _=>0) (.map []):=⟨SZ.out.own.kept hg0 (by simp),SZ.out.keys,(fun T l _ _ h=>by cases h),fun _ _ _ _ _ _=>rfl⟩
  refine h1.congr fun U _=>?_
  funext y
  rw[Zg5 C c0 k U (fun s hs=>?_) y]
  obtain⟨l,hl⟩:=keyT (QF4 C s k)
  rw[Qj9 ((HKF.out _).trans hl),HCV.out s l hs hl];rfl
 have hR0:w0.heap[w.heap.size]?=some (.cells #[.int .i64 (a0:Nat),.int .i64 (a1:Nat),.int .i64 (a2:Nat),.int .i64 (a3:Nat)] 73 (0,0)):=(hg0.block _ (by omega) (by simp)).trans RZ.out
 have HS0:=QQ1 hS0
 have HR0:=QQ1 hR0
 have HB0:=QQ1 B0
 clear hS0 hR0 B0 hg0 SZ RZ OZ BZ HZ sZ
 go_loopw [6, 7] (fun _ _ wr => ∃ (left : Lit → Bool) (cnt j : Nat) (D2 : DataW Unit), wr.ranges Tryd.prog 78 Xy4 b (w.heap.size + 2) n D left cnt ∧ j + 2 * cnt ≤ 2 * n ∧ Hid (SumD wr (w.heap.size + 3) wr.heap.size (w.heap.size + 1) j (KK + 5) (2 * (KK + 5) + 1) (Xq5 C c0 k (dnF kf left)) D2) ∧
     Hid (∀ s l,s<2 ^ k->dnF kf left (kyS C s k)=true->(keyOf Tryd.prog 78 (tiV (tA C k (kyS C s k)))=some l->Maps.has D2 l=true)/\(keyOf Tryd.prog 78 (tiV (tB C k (kyS C s k)))=some l->Maps.has D2 l=true))/\Hid (wr.heap[w.heap.size]?=some (.cells #[.int .i64 (a0:Nat),.int .i64 (a1:Nat),.int .i64 (a2:Nat),.int .i64 (a3:Nat)] 73 (0,0)))/\Hid (Below w.heap.size w wr)/\w.heap.size+3<=wr.heap.size)
  (fun _ _ wr=>wr.rangeLeft b (w.heap.size+2))
 case atStart=>
  exact ⟨_, _, 0, _, hrg0, by omega, HS0.out, (fun s l hs hd => by
   obtain⟨l',hl'⟩:=keyT (QF4 C s k)
   rw[Qj9 ((HKF.out _).trans hl'),HCV.out s l' hs hl']at hd
   cases hd),HR0.out,HB0.out,by omega⟩
 case round=>
  clear hrg0 hs0 HS0 HR0 HB0
  rename World=>W1
  obtain⟨left,cnt,j,D2,hrg,hj,hSM,hCV2,hRW,hBW,hsW⟩:=hrel
  go_wp2_with (first
   |(at_next;refine wpList_next_ranges _ rfl _ rfl 78 lawT Xy4 (fun v:Value=>v) (fun c:Nat=>Value.map (some c)) (fun key _ _=>⟨key,rfl⟩) (fun v y hv=>by obtain⟨c,e,-⟩:=Qv2 hv;exact⟨c,e⟩) b (w.heap.size+2) n _ _ _ rfl hrg ?_ ?_)
   |go_in)
  · intro hc0' hl0
    go_wp2
    go_ret
    have hall:∀ T,GoodK T->dnF kf left T=true:=fun T hT=>by
     obtain⟨l,hl⟩:=keyT hT
     rw[Qj9 ((HKF.out _).trans hl),hl0];rfl
    refine⟨w.heap.size+1,D2,rfl,(hSM.out.congr fun U _=>KB0 C c0 k U fun s _=>hall _ (QF4 C s k)).mono (Nat.zero_le _) (Nat.le_refl _) (by omega) (Nat.le_refl _) (Nat.le_refl _),fun s l hs hl=>?_,hBW.out⟩
    rw[Nat.pow_succ]at hs
    by_cases hlt:s<2 ^ k
    · rw[XG7,if_neg (by rw[XH4 hlt];decide)]at hl
      exact(hCV2.out s l hlt (hall _ (QF4 C s k))).2 hl
    · obtain⟨s',rfl⟩:∃ s',s=2 ^ k+s':=⟨s - 2 ^ k,by omega⟩
      have hs':s'<2 ^ k:=by omega
      rw[XG7,if_pos (Xz2 hs'),Zz7 C (Nat.le_refl k)]at hl
      exact(hCV2.out s' l hs' (hall _ (QF4 C s' k))).1 hl
  · intro x c kl yd yp w1 cnt1 hkey hlk hRy hat hrg1 hlt hg1 hs1 hen
    have hhas:=Maps.has_true_of_atKey hat
    obtain⟨T,hGT,hkT⟩:=HS.out.keys kl hhas
    have ex:x=.agg (tiA T):=lawT.inj hkey hkT
    subst ex
    obtain⟨c',k1,-,k3⟩:=HS.out.vals T kl hGT hkT hhas
    have ec:c=c':=by
     obtain⟨c2,g1,g2⟩:=Qv2 hRy
     have:=(hat .nil).symm.trans (k1 .nil)
     have g3:yd=.lit (.int .i64 (c2:Nat)):=congrArg Prod.fst g2
     rw[g3]at this
     simp only[DataW.lit.injEq,Lit.int.injEq,true_and]at this
     have g1':c=c2:=by injection g1 with g1;exact Option.some.inj g1
     omega
    subst ec
    have HWC:=QQ1 k3
    have HGT:=QQ1 hGT
    have HKT:=QQ1 hkT
    have HLK:=QQ1 hlk
    have HLT:=QQ1 hlt
    have hl1:=hrg1.lt
    have hs1':W1.heap.size<=w1.heap.size:=Nat.le_of_eq hs1.symm
    clear hs1
    have hsm1:=hSM.out.kept hg1 (by omega) (by omega)
    have hrw1:=(hg1.block _ (by omega) (fun e=>by have:=Option.some.inj e;omega)).trans hRW.out
    have hbw1:Below w.heap.size w w1:=hBW.out.grown hg1 hBW.out.size (fun j hj=>by cases hj;omega)
    have hzr:(w1.alloc (.cells #[Value.int .i64 0,Value.int .i64 0,Value.int .i64 0,Value.int .i64 0,Value.int .i64 0,Value.int .i64 0,Value.int .i64 0,Value.int .i64 0,Value.int .i64 0,Value.int .i64 0,Value.int .i64 0,Value.int .i64 0,Value.int .i64 0,Value.int .i64 0,Value.int .i64 0,Value.int .i64 0,Value.int .i64 0,Value.int .i64 0,Value.int .i64 0,Value.int .i64 0,Value.int .i64 0,Value.int .i64 0,Value.int .i64 0,Value.int .i64 0,Value.int .i64 0,Value.int .i64 0] 78)).heap[w1.heap.size]?=some (.cells (tiA zeK) 78 (0,0)):=heap_alloc_new _ _
    obtain⟨g6,hg6⟩:∃ g,w1.heap.size=g:=⟨_,rfl⟩
    obtain⟨X,hX⟩:∃ X,(w1.alloc (.cells #[Value.int .i64 0,Value.int .i64 0,Value.int .i64 0,Value.int .i64 0,Value.int .i64 0,Value.int .i64 0,Value.int .i64 0,Value.int .i64 0,Value.int .i64 0,Value.int .i64 0,Value.int .i64 0,Value.int .i64 0,Value.int .i64 0,Value.int .i64 0,Value.int .i64 0,Value.int .i64 0,Value.int .i64 0,Value.int .i64 0,Value.int .i64 0,Value.int .i64 0,Value.int .i64 0,Value.int .i64 0,Value.int .i64 0,Value.int .i64 0,Value.int .i64 0,Value.int .i64 0] 78)).setRow w1.heap.size (tiA T)=X:=⟨_,rfl⟩
    have hTX:TiAt X w1.heap.size T:=by
     rw[<-hX]
     exact TiAt.row (T:=zeK) hzr
    have hbX:Below w1.heap.size w1 X:=by rw[<-hX];exact QJ1 ((Below.refl _ _).alloc (Nat.le_refl _) _) (Nat.le_refl _)
    have HZR:=QQ1 hzr
    have HX:=QQ1 hX
    have HTA:Hid (TiAt X g6 T):=(by rw[<-hg6];exact hTX:TiAt X g6 T)
    have HBXA:Hid (Below w.heap.size w X):=hbw1.trans (hbX.mono (by omega))
    have HRA:Hid (X.heap[w.heap.size]?=some (.cells #[.int .i64 (a0:Nat),.int .i64 (a1:Nat),.int .i64 (a2:Nat),.int .i64 (a3:Nat)] 73 (0,0))):=(hbX.block _ (by omega)).trans hrw1
    have HSMA:Hid (SumD X (w.heap.size+3) X.heap.size (w.heap.size+1) j (KK+5) (2*(KK+5)+1) (Xq5 C c0 k (dnF kf left)) D2):=(hsm1.on hbX (by omega)).mono (Nat.le_refl _) hbX.size (Nat.le_refl _) (Nat.le_refl _) (Nat.le_refl _)
    have HRNA:Hid (X.ranges Tryd.prog 78 Xy4 b (w.heap.size+2) n D (fun z=>left z&&!z.sameKey kl) cnt1):=hrg1.kept (grown_below hbX none) (by simp) (by simp)
    have hg6l:w.heap.size+3<=g6:=by omega
    have hsX:w.heap.size+3<=X.heap.size:=by have:=hbX.size;omega
    have HG6E:=QQ1 hg6
    clear hg6 hTX hbX hzr hX hsm1 hrw1 hbw1 k1 k3 hGT hkT hkey hRy hhas hlk
    go_upto_region 5 with (first
     |(refine wpList_store_row rfl 78 _ _ rfl w1.heap.size _ rfl rfl 78 _ HZR.out (QV0 HGT.out) (by rw[QZ3 HGT.out,QZ3 Qf4]) (QC5 _) ?_))
    rw[HX.out,HG6E.out]
    obtain⟨jjA,hjjA⟩:∃ X,j=X:=⟨_,rfl⟩
    obtain⟨DDA,hDDA⟩:∃ X,D2=X:=⟨_,rfl⟩
    obtain⟨VVA,hVVA⟩:∃ X,Xq5 C c0 k (dnF kf left)=X:=⟨_,rfl⟩
    have HVE:=QQ1 hVVA
    have HVBA:Hid (∀ y,(VVA (t4 T a0 a1 a2 a3) y).natAbs<=1000000000000000000):=fun y=>by rw[<-hVVA];exact Nat.le_trans (HUB.out _ _ y) (by decide)
    have HDX:Hid (∀ (e:Int) (c:Nat),c<=2->∀ y,(dlN c (shA e (mS C c0 k T)) y).natAbs<=1000000000000000000):=fun e c hc y=>Nat.le_trans (HDS.out T e c hc y) (by decide)
    rw[hVVA,hDDA,hjjA]at HSMA
    clear hVVA
    have HQA:Hid (∀ W,Below X.heap.size X W->(fun U:World=>TiAt U g6 T/\U.heap[w.heap.size]?=some (.cells #[.int .i64 (a0:Nat),.int .i64 (a1:Nat),.int .i64 (a2:Nat),.int .i64 (a3:Nat)] 73 (0,0))) W):=fun W hW=>⟨HTA.out.on hW HTA.out.lt,(hW.block _ (Array.getElem?_eq_some_iff.1 HRA.out).1).trans HRA.out⟩
    have HDA:Hid (Below X.heap.size X X.drew):=(Below.refl _ _).drew
    go_upto_region 5 with(fail)
    refine rhd HQA HDA.out (fun hHeld=>?_)
    refine tq 16 0 (h:=?_)
    refine tq 17 1 (hy:=fun W hW=>Qd2 78 _ rfl g6 rfl 78 _ (0,0) _ hW.1 Tryd.underlying78 rfl (QV0 HGT.out)) (h:=?_)
    refine tq 18 2 (h:=?_)
    refine tq 22 7 (hy:=fun W hW=>Qd2 73 _ rfl w.heap.size rfl 73 _ (0,0) _ hW.2 Tryd.underlying73 rfl (by kernel_rfl)) (h:=?_)
    simp only[List.setIfInBounds_toArray,List.set_cons_succ,List.set_cons_zero]
    clear hHeld
    obtain⟨u2A,hinsA,hwkA,hb2A⟩:=Xx9 X.drew 1 1 1 (by decide) (by decide) (Or.inl rfl)
    rw[show X.drew.heap.size=X.heap.size from rfl]at hinsA hwkA
    rw[show X.drew.alloc (.map #[] 0)=(X.alloc (.map #[] 0)).drew from rfl]at hinsA
    have HLA:=QQ1 hwkA
    have HUA:=QQ1 (HDA.out.trans (hb2A.mono HDA.out.size))
    have HMA:Hid (Below X.heap.size X (X.drew.alloc (.map #[] 0))):=HDA.out.alloc HDA.out.size _
    clear hwkA hb2A
    refine rd1 3 ?_
    intro K0 hK0
    have hmk:=mkW
    go_simp
    refine hK0.out _ _ (HQA.out _ HMA.out) (fun _=>?_)
    clear hK0 K0 hmk
    try simp only[Act.put]
    try simp only[List.getElem_toArray]
    try simp only[List.getElem_cons_succ]
    try simp only[List.getElem_cons_zero]
    try simp only[List.setIfInBounds_toArray,List.set_cons_succ,List.set_cons_zero]
    refine rd1 4 ?_
    intro K0 hK0
    go_simp
    refine hK0.out _ _ (HQA.out _ HUA.out) (fun hHeld=>?_)
    clear hK0 K0 hinsA
    try simp only[Act.put]
    try simp only[List.getElem_toArray]
    try simp only[List.getElem_cons_succ]
    try simp only[List.getElem_cons_zero]
    try      refine tq 20 5 (h:=?_)
    simp only[List.setIfInBounds_toArray,List.set_cons_succ,List.set_cons_zero]
    clear hHeld
    have BUA:Hid (Below w.heap.size w u2A):=HBXA.out.trans (HUA.out.mono HBXA.out.size)
    have HTMA:=QQ1 (QY7 (.map (some c)) (.map (some X.heap.size)) (2*KK+1) 1 KK 1 (2 ^ (c0+3*k)) 1 [(1,1)] (mS C c0 k T) (coefL [(1,1)]) u2A (by omega) (by omega) (by omega) HH1.out (fun y=>JU0 C c0 k T y) (Kv6 1) ((HWC.out.on BUA.out).mono BUA.out.size (Nat.le_refl _) (Nat.le_refl _)) HLA.out (by simp) (fun y=>rfl))
    refine rd1 6 ?_
    intro K0 hK0
    go_simp
    go_wp2_with (go_at_call 17;refine HTMA.out.mono ?_;rintro e9 t4A ⟨rfl,hw4,hb4⟩)
    have HB4A:=QQ1 (HUA.out.trans (hb4.mono HUA.out.size))
    rw[Kk5]at hw4
    have HW4A:=QQ1 hw4
    clear hb4 hw4 HTMA
    refine hK0.out _ _ (HQA.out _ HB4A.out) (fun _=>?_)
    clear hK0 K0
    try simp only[Act.put]
    try simp only[List.getElem_toArray]
    try simp only[List.getElem_cons_succ]
    try simp only[List.getElem_cons_zero]
    try simp only[List.setIfInBounds_toArray,List.set_cons_succ,List.set_cons_zero]
    have BWA:Hid (Below w.heap.size w t4A):=HBXA.out.trans (HB4A.out.mono HBXA.out.size)
    have hsmA:=(HSMA.out.on HB4A.out HSMA.out.own.lt).mono (Nat.le_refl _) HB4A.out.size (Nat.le_refl _) (Nat.le_refl _) (Nat.le_refl _)
    have HADA:=QQ1 (Jj1 (w.heap.size+3) (w.heap.size+1) jjA (KK+5) (2*(KK+1)+1) (KK+1) (2 ^ (c0+3*k)) VVA DDA T (shA 1 (mS C c0 k T)) u2A.heap.size a0 a1 a2 a3 t4A HGT.out (by omega) (by omega) (by omega) (by omega) (HRG.out.on BWA.out HRG.out.lt) (by have:=HB4A.out.size;omega) (by omega) (by omega) (by omega) (by omega) (by omega) hsmA HW4A.out HH2.out (fun y=>JU0 C c0 k T (y-1)) HVBA.out (fun y=>HDX.out 1 _ (XF7 _ _ _ _ _) y))
    clear hsmA
    refine rd1 8 ?_
    intro K0 hK0
    go_simp
    go_wp2_with (go_at_call 54;refine HADA.out.mono ?_;rintro e9 v5A ⟨rfl,D5A,hs5,hg5,hk5,hm5⟩)
    have HS5A:=QQ1 hs5
    have HG5A:=QQ1 hg5
    have HK5A:=QQ1 hk5
    have HM5A:=QQ1 hm5
    have hlb:w.heap.size+3<=t4A.heap.size:=by have:=HB4A.out.size;omega
    have HT5A:Hid (TiAt v5A g6 T):=(hg5.block _ (HQA.out _ HB4A.out).1.lt (fun e=>by have:=Option.some.inj e;omega)).trans (HQA.out _ HB4A.out).1
    have HR5A:Hid (v5A.heap[w.heap.size]?=some (.cells #[.int .i64 (a0:Nat),.int .i64 (a1:Nat),.int .i64 (a2:Nat),.int .i64 (a3:Nat)] 73 (0,0))):=(hg5.block _ (by omega) (fun e=>by have:=Option.some.inj e;omega)).trans (HQA.out _ HB4A.out).2
    have HX5A:Hid (Below w.heap.size w v5A):=BWA.out.grown hg5 BWA.out.size (fun j hj=>by cases hj;omega)
    have hsz5:=hg5.size
    have HN5A:Hid (v5A.ranges Tryd.prog 78 Xy4 b (w.heap.size+2) n D (fun z=>left z&&!z.sameKey kl) cnt1):=((HRNA.out.kept (grown_below HB4A.out none) (by simp) (by simp)).kept hg5 (fun e=>by have:=Option.some.inj e;omega) (fun e=>by have:=Option.some.inj e;omega))
    clear hs5 hg5 hk5 hm5 HADA
    refine hK0.out _ _ ⟨HT5A.out,HR5A.out⟩ (fun _=>?_)
    clear hK0 K0
    try simp only[Act.put]
    try simp only[List.getElem_toArray]
    try simp only[List.getElem_cons_succ]
    try simp only[List.getElem_cons_zero]
    try simp only[List.setIfInBounds_toArray,List.set_cons_succ,List.set_cons_zero]
    refine wpAnyH_done (by kernel_rfl) ?_ _
    obtain⟨jjB,hjjB⟩:∃ X,jjA+1=X:=⟨_,rfl⟩
    obtain⟨VVB,hVVB⟩:∃ X:List Nat->Int->Int,(fun U=>if U=t4 T a0 a1 a2 a3 then(fun y=>VVA U y+dlN (c4 T a0 a1 a2 a3) (shA 1 (mS C c0 k T)) y) else VVA U)=X:=⟨_,rfl⟩
    have HVF:=QQ1 hVVB
    have HVBB:Hid (∀ y,(VVB (t4 T a1 a2 a3 a0) y).natAbs<=1000000000000000000):=fun y=>by
     rw[<-hVVB,<-HVE.out]
     have u:=HUB.out (dnF kf left) (t4 T a1 a2 a3 a0) y
     have v:=HDS.out T 1 (c4 T a0 a1 a2 a3) (XF7 _ _ _ _ _) y
     have v2:=Int.natAbs_add_le (Xq5 C c0 k (dnF kf left) (t4 T a1 a2 a3 a0) y) (dlN (c4 T a0 a1 a2 a3) (shA 1 (mS C c0 k T)) y)
     have d1:(2:Nat) ^ 52=4503599627370496:=by decide
     have d2:(2:Nat) ^ 51=2251799813685248:=by decide
     by_cases e:t4 T a1 a2 a3 a0=t4 T a0 a1 a2 a3
     · show((if t4 T a1 a2 a3 a0=t4 T a0 a1 a2 a3 then(fun y=>Xq5 C c0 k (dnF kf left) (t4 T a1 a2 a3 a0) y+dlN (c4 T a0 a1 a2 a3) (shA 1 (mS C c0 k T)) y) else Xq5 C c0 k (dnF kf left) (t4 T a1 a2 a3 a0)) y).natAbs<=_
       rw[if_pos e]
       omega
     · show((if t4 T a1 a2 a3 a0=t4 T a0 a1 a2 a3 then(fun y=>Xq5 C c0 k (dnF kf left) (t4 T a1 a2 a3 a0) y+dlN (c4 T a0 a1 a2 a3) (shA 1 (mS C c0 k T)) y) else Xq5 C c0 k (dnF kf left) (t4 T a1 a2 a3 a0)) y).natAbs<=_
       rw[if_neg e]
       omega
    rw[hVVB,hjjB]at HS5A
    clear hVVB
    have hsY:w.heap.size+3<=v5A.heap.size:=by omega
    have HQB:Hid (∀ W,Below v5A.heap.size v5A W->(fun U:World=>TiAt U g6 T/\U.heap[w.heap.size]?=some (.cells #[.int .i64 (a0:Nat),.int .i64 (a1:Nat),.int .i64 (a2:Nat),.int .i64 (a3:Nat)] 73 (0,0))) W):=fun W hW=>⟨HT5A.out.on hW HT5A.out.lt,(hW.block _ (Array.getElem?_eq_some_iff.1 HR5A.out).1).trans HR5A.out⟩
    have HDB:Hid (Below v5A.heap.size v5A v5A.drew):=(Below.refl _ _).drew
    go_upto_region 6 with(fail)
    refine rhd HQB HDB.out (fun hHeld=>?_)
    refine tq 24 0 (h:=?_)
    refine tq 25 1 (hy:=fun W hW=>Qd2 78 _ rfl g6 rfl 78 _ (0,0) _ hW.1 Tryd.underlying78 rfl (QV0 HGT.out)) (h:=?_)
    refine tq 26 2 (h:=?_)
    refine tq 30 7 (hy:=fun W hW=>Qd2 73 _ rfl w.heap.size rfl 73 _ (0,0) _ hW.2 Tryd.underlying73 rfl (by kernel_rfl)) (h:=?_)
    simp only[List.setIfInBounds_toArray,List.set_cons_succ,List.set_cons_zero]
    clear hHeld
    obtain⟨u2B,hinsB,hwkB,hb2B⟩:=Xx9 v5A.drew (-1) 1 1 (by decide) (by decide) (Or.inl rfl)
    rw[show v5A.drew.heap.size=v5A.heap.size from rfl]at hinsB hwkB
    rw[show v5A.drew.alloc (.map #[] 0)=(v5A.alloc (.map #[] 0)).drew from rfl]at hinsB
    have HLB:=QQ1 hwkB
    have HUB:=QQ1 (HDB.out.trans (hb2B.mono HDB.out.size))
    have HMB:Hid (Below v5A.heap.size v5A (v5A.drew.alloc (.map #[] 0))):=HDB.out.alloc HDB.out.size _
    clear hwkB hb2B
    refine rd1 3 ?_
    intro K0 hK0
    have hmk:=mkW
    go_simp
    refine hK0.out _ _ (HQB.out _ HMB.out) (fun _=>?_)
    clear hK0 K0 hmk
    try simp only[Act.put]
    try simp only[List.getElem_toArray]
    try simp only[List.getElem_cons_succ]
    try simp only[List.getElem_cons_zero]
    try simp only[List.setIfInBounds_toArray,List.set_cons_succ,List.set_cons_zero]
    refine rd1 4 ?_
    intro K0 hK0
    go_simp
    refine hK0.out _ _ (HQB.out _ HUB.out) (fun hHeld=>?_)
    clear hK0 K0 hinsB
    try simp only[Act.put]
    try simp only[List.getElem_toArray]
    try simp only[List.getElem_cons_succ]
    try simp only[List.getElem_cons_zero]
    try      refine tq 28 5 (h:=?_)
    simp only[List.setIfInBounds_toArray,List.set_cons_succ,List.set_cons_zero]
    clear hHeld
    have BUB:Hid (Below w.heap.size w u2B):=HX5A.out.trans (HUB.out.mono HX5A.out.size)
    have HTMB:=QQ1 (QY7 (.map (some c)) (.map (some v5A.heap.size)) (2*KK+1) 1 KK 1 (2 ^ (c0+3*k)) 1 [((-1),1)] (mS C c0 k T) (coefL [((-1),1)]) u2B (by omega) (by omega) (by omega) HH1.out (fun y=>JU0 C c0 k T y) (Kv6 (-1)) ((HWC.out.on BUB.out).mono BUB.out.size (Nat.le_refl _) (Nat.le_refl _)) HLB.out (by simp) (fun y=>rfl))
    refine rd1 6 ?_
    intro K0 hK0
    go_simp
    go_wp2_with (go_at_call 17;refine HTMB.out.mono ?_;rintro e9 t4B ⟨rfl,hw4,hb4⟩)
    have HB4B:=QQ1 (HUB.out.trans (hb4.mono HUB.out.size))
    rw[Kk5]at hw4
    have HW4B:=QQ1 hw4
    clear hb4 hw4 HTMB
    refine hK0.out _ _ (HQB.out _ HB4B.out) (fun _=>?_)
    clear hK0 K0
    try simp only[Act.put]
    try simp only[List.getElem_toArray]
    try simp only[List.getElem_cons_succ]
    try simp only[List.getElem_cons_zero]
    try simp only[List.setIfInBounds_toArray,List.set_cons_succ,List.set_cons_zero]
    have BWB:Hid (Below w.heap.size w t4B):=HX5A.out.trans (HB4B.out.mono HX5A.out.size)
    have hsmB:=(HS5A.out.on HB4B.out HS5A.out.own.lt).mono (Nat.le_refl _) HB4B.out.size (Nat.le_refl _) (Nat.le_refl _) (Nat.le_refl _)
    have HADB:=QQ1 (Jj0 (w.heap.size+3) (w.heap.size+1) jjB (KK+5) (2*(KK+1)+1) (KK+1) (2 ^ (c0+3*k)) VVB D5A T (shA (-1) (mS C c0 k T)) u2B.heap.size a0 a1 a2 a3 t4B HGT.out (by omega) (by omega) (by omega) (by omega) (HRG.out.on BWB.out HRG.out.lt) (by have:=HB4B.out.size;omega) (by omega) (by omega) (by omega) (by omega) (by omega) hsmB HW4B.out HH2.out (fun y=>JU0 C c0 k T (y-(-1))) HVBB.out (fun y=>HDX.out (-1) _ (XF7 _ _ _ _ _) y))
    clear hsmB
    refine rd1 8 ?_
    intro K0 hK0
    go_simp
    go_wp2_with (go_at_call 54;refine HADB.out.mono ?_;rintro e9 v5B ⟨rfl,D5B,hs5,hg5,hk5,hm5⟩)
    have HS5B:=QQ1 hs5
    have HG5B:=QQ1 hg5
    have HK5B:=QQ1 hk5
    have HM5B:=QQ1 hm5
    have hlb:w.heap.size+3<=t4B.heap.size:=by have:=HB4B.out.size;omega
    have HT5B:Hid (TiAt v5B g6 T):=(hg5.block _ (HQB.out _ HB4B.out).1.lt (fun e=>by have:=Option.some.inj e;omega)).trans (HQB.out _ HB4B.out).1
    have HR5B:Hid (v5B.heap[w.heap.size]?=some (.cells #[.int .i64 (a0:Nat),.int .i64 (a1:Nat),.int .i64 (a2:Nat),.int .i64 (a3:Nat)] 73 (0,0))):=(hg5.block _ (by omega) (fun e=>by have:=Option.some.inj e;omega)).trans (HQB.out _ HB4B.out).2
    have HX5B:Hid (Below w.heap.size w v5B):=BWB.out.grown hg5 BWB.out.size (fun j hj=>by cases hj;omega)
    have hsz5:=hg5.size
    have HN5B:Hid (v5B.ranges Tryd.prog 78 Xy4 b (w.heap.size+2) n D (fun z=>left z&&!z.sameKey kl) cnt1):=((HN5A.out.kept (grown_below HB4B.out none) (by simp) (by simp)).kept hg5 (fun e=>by have:=Option.some.inj e;omega) (fun e=>by have:=Option.some.inj e;omega))
    clear hs5 hg5 hk5 hm5 HADB
    refine hK0.out _ _ ⟨HT5B.out,HR5B.out⟩ (fun _=>?_)
    clear hK0 K0
    try simp only[Act.put]
    try simp only[List.getElem_toArray]
    try simp only[List.getElem_cons_succ]
    try simp only[List.getElem_cons_zero]
    try simp only[List.setIfInBounds_toArray,List.set_cons_succ,List.set_cons_zero]
    refine wpAnyH_done (by kernel_rfl) ?_ _
    go_wp2
    go_roundw
    case rel=>
     refine⟨_,cnt1,jjB+1,D5B,HN5B.out,by omega,HS5B.out.congr (fun U _=>?_),fun s l hs hd=>?_,HR5B.out,HX5B.out,by omega⟩
     · funext y
       have hst:=Zg4 C c0 k U T (dn:=dnF kf left) (dn':=dnF kf (fun z=>left z&&!z.sameKey kl)) (by rw[Qj9 ((HKF.out _).trans HKT.out),HLK.out];rfl) (fun s=>XC0 HKF.out HKT.out _ (QF4 C s k)) y
       rw[(HA.out T).1,(HA.out T).2.1,(HA.out T).2.2.1,(HA.out T).2.2.2]at hst
       rw[hst,<-HVF.out,<-HVE.out]
       by_cases q1:U=t4 T a0 a1 a2 a3<;>by_cases q2:U=t4 T a1 a2 a3 a0
       · simp only[<-q1,<-q2,if_true]
       · have q2':¬ t4 T a1 a2 a3 a0=U:=fun e=>q2 e.symm
         simp only[if_neg q2,if_neg q2',if_pos q1,if_pos q1.symm];omega
       · have q1':¬ t4 T a0 a1 a2 a3=U:=fun e=>q1 e.symm
         simp only[if_neg q1,if_neg q1',if_pos q2,if_pos q2.symm];omega
       · have q1':¬ t4 T a0 a1 a2 a3=U:=fun e=>q1 e.symm
         have q2':¬ t4 T a1 a2 a3 a0=U:=fun e=>q2 e.symm
         simp only[if_neg q1,if_neg q2,if_neg q1',if_neg q2'];omega
     · rcases(XC0 HKF.out HKT.out _ (QF4 C s k)).1 hd with h|h
       · exact⟨fun hl=>HM5B.out l (HM5A.out l (hDDA▸(hCV2.out s l hs h).1 hl)),fun hl=>HM5B.out l (HM5A.out l (hDDA▸(hCV2.out s l hs h).2 hl))⟩
       · rw[h,(HA.out T).1,(HA.out T).2.2.1]
         exact⟨fun hl=>HM5B.out l (HK5A.out l hl),fun hl=>HK5B.out l hl⟩
    case measure=>rw[HN5B.out.left_eq,hrg.left_eq];exact HLT.out
end Go.Proofs.YtjcagkgpbcdghaaDoor.Poly
/- The walk of bracket.sums.all. -/
namespace Go.Proofs.YtjcagkgpbcdghaaDoor.Poly
open Go.RowKit Go.Maps
set_option maxHeartbeats 8000000
set_option maxRecDepth 100000
theorem WkV.kept {W W':World} {c n K g:Nat} {f:Int->Int} (h:WkV W W.heap.size (.map (some c)) n K f) (hg:W.grownBy W' (some g)) (hc:c≠g):WkV W' W'.heap.size (.map (some c)) n K f:=by
 rcases h with⟨e,-⟩|⟨c',D',e,hlt,ho,hk,hcf⟩
 · cases e
 · cases e
   exact Or.inr ⟨c,D',rfl,Nat.lt_of_lt_of_le hlt hg.size,ho.kept hg (fun e=>hc (Option.some.inj e)),hk,hcf⟩
theorem JV9 (C : List Cr) (c0 k b n KK : Nat) (D : DataW Unit) (w : World) (hc0 : c0 ≤ 16) (hk : k ≤ 12) (hKb : KK ≤ 92) (hS : SumD w 0 w.heap.size b n KK (2 * KK + 1) (mS C c0 k) D) (hcv : ∀ s l, s < 2 ^ k → keyOf Tryd.prog 78 (tiV (kyS C s k)) = some l → Maps.has D l = true) :
    Calls Tryd.prog 38 #[.map (some b)] w fun e w'=>∃ c:Nat,e=.returned (.map (some c))/\WkV w' w'.heap.size (.map (some c)) (2*KK+1) KK (JC4 C c0 k)/\Below w.heap.size w w':=by
 have hbw:=hS.own.lt
 have hp52:2 ^ (c0+3*k)<=2 ^ 52:=Nat.pow_le_pow_right (by omega) (by omega)
 have HMB:Hid (∀ T y,(mS C c0 k T y).natAbs<=1000000000000000000):=fun T y=>Nat.le_trans (JU0 C c0 k T y) (Nat.le_trans hp52 (by decide))
 have HUB:Hid (∀ (dn:List Nat->Bool) (y:Int),(KU2 C c0 k dn y).natAbs<=1000000000000000000):=fun dn y=>Nat.le_trans (Zf1 C c0 k dn y) (Nat.le_trans hp52 (by decide))
 obtain⟨kf,hkf⟩:∃ kf:List Nat->Option Lit,∀ T,kf T=keyOf Tryd.prog 78 (tiV T):=⟨_,fun _=>rfl⟩
 have HKF:=QQ1 hkf
 have HS:=QQ1 hS
 have HCV:=QQ1 hcv
 have hmm:=mkW
 clear hp52 hS hcv hkf
 obtain⟨Z,hZ⟩:∃ Z,Z=w.alloc (.map #[] 0):=⟨_,rfl⟩
 have HZ:=QQ1 hZ
 have sZ:Z.heap.size=w.heap.size+1:=by rw[hZ];simp
 have BZ:Hid (Below w.heap.size w Z):=(by rw[hZ];exact(Below.refl _ _).alloc (Nat.le_refl _) _:Below w.heap.size w Z)
 have WZ:Hid (Z.ownsMap Tryd.prog 3 (plainElem Tryd.prog 3) w.heap.size 0 (.map []:DataW Unit)):=(by rw[hZ];exact World.ownsMap_made _ _ _ _:Z.ownsMap Tryd.prog 3 (plainElem Tryd.prog 3) w.heap.size 0 (.map []:DataW Unit))
 have OZ:Hid (Z.ownsMap Tryd.prog 78 Xy4 b n D):=(HS.out.on BZ.out hbw).own
 clear hZ
 go_enter Tryd.func38,Tryd.ntmps38
 go_upto_region 2 with(fail)
 rw[<-HZ.out]
 go_wp2_with (first
  |(at_range;refine wpList_range_own _ rfl _ 81 rfl 78 50 lawT Tryd.underlying81 Xy4 b n _ rfl OZ.out ?_;intro w0 hrg0 hg0 hs0))
 try go_frame
 rw[sZ]at hrg0 hs0 ⊢
 have B0:Below w.heap.size w w0:=BZ.out.grown hg0 (by omega) (fun j hj=>by cases hj)
 have hW0:WkV w0 w0.heap.size (.map (some w.heap.size)) (2*KK+1) KK (KU2 C c0 k (dnF kf (Maps.has D))):=by
  refine Or.inr ⟨_,.map [],rfl,by omega,(WZ.out.kept hg0 (by simp)).mono (Nat.zero_le _),(fun x hx=>by cases hx),fun y=>?_⟩
  rw[KW8 C c0 k (fun s hs=>?_) y]
  · exact coefOf_none rfl
  · obtain⟨l,hl⟩:=keyT (QF4 C s k)
    rw[Qj9 ((HKF.out _).trans hl),HCV.out s l hs hl];rfl
 have HW0:=QQ1 hW0
 have HB0:=QQ1 B0
 clear hW0 B0 hg0 WZ OZ BZ HZ sZ
 go_loopw [3,5] (fun v _ wr=>∃ (left:Lit->Bool) (cnt q:Nat),v=.map (some q)/\wr.ranges Tryd.prog 78 Xy4 b (w.heap.size+1) n D left cnt/\Hid (WkV wr wr.heap.size (.map (some q)) (2*KK+1) KK (KU2 C c0 k (dnF kf left)))/\Hid (Below w.heap.size w wr)/\w.heap.size+2<=wr.heap.size/\q≠w.heap.size+1)
  (fun _ _ wr=>wr.rangeLeft b (w.heap.size+1))
 case atStart=>
  exact⟨_,_,w.heap.size,rfl,hrg0,HW0.out,HB0.out,by omega,by omega⟩
 case round=>
  clear hrg0 hs0 HW0 HB0
  rename World=>W1
  obtain⟨left,cnt,q,rfl,hrg,hWK,hBW,hsW,hqn⟩:=hrel
  go_wp2_with (first
   |(at_next;refine wpList_next_ranges _ rfl _ rfl 78 lawT Xy4 (fun v:Value=>v) (fun c:Nat=>Value.map (some c)) (fun key _ _=>⟨key,rfl⟩) (fun v y hv=>by obtain⟨c,e,-⟩:=Qv2 hv;exact⟨c,e⟩) b (w.heap.size+1) n _ _ _ rfl hrg ?_ ?_)
   |go_in)
  · intro hc0' hl0
    go_wp2
    go_ret
    have hall:∀ T,GoodK T->dnF kf left T=true:=fun T hT=>by
     obtain⟨l,hl⟩:=keyT hT
     rw[Qj9 ((HKF.out _).trans hl),hl0];rfl
    refine⟨q,rfl,?_,hBW.out⟩
    have:=hWK.out
    rw[ZY5 C c0 k fun s _=>hall _ (QF4 C s k)]at this
    exact this
  · intro x c kl yd yp w1 cnt1 hkey hlk hRy hat hrg1 hlt hg1 hs1 hen
    have hhas:=Maps.has_true_of_atKey hat
    obtain⟨T,hGT,hkT⟩:=HS.out.keys kl hhas
    obtain⟨c',k1,-,k3⟩:=HS.out.vals T kl hGT hkT hhas
    have ec:c=c':=by
     obtain⟨c2,g1,g2⟩:=Qv2 hRy
     have:=(hat .nil).symm.trans (k1 .nil)
     have g3:yd=.lit (.int .i64 (c2:Nat)):=congrArg Prod.fst g2
     rw[g3]at this
     simp only[DataW.lit.injEq,Lit.int.injEq,true_and]at this
     have g1':c=c2:=by injection g1 with g1;exact Option.some.inj g1
     omega
    subst ec
    have HKT:=QQ1 hkT
    have HLK:=QQ1 hlk
    have HLT:=QQ1 hlt
    have hbw1:Below w.heap.size w w1:=hBW.out.grown hg1 hBW.out.size (fun j hj=>by cases hj;omega)
    have hwk1:=hWK.out.kept hg1 hqn
    have hwc1:=(k3.on hbw1).mono hbw1.size (Nat.le_refl _) (Nat.le_refl _)
    have HPL:=QQ1 (QA2 (.map (some q)) (.map (some c)) (2*KK+1) (2*KK+1) KK _ (mS C c0 k T) w1 (by omega) (by omega) (by omega) (HUB.out _) (HMB.out T) hwk1 hwc1 (by simp))
    have HB1:=QQ1 hbw1
    have hs1':W1.heap.size<=w1.heap.size:=Nat.le_of_eq hs1.symm
    clear hs1 hwk1 hwc1 hbw1 k1 k3 hkey hRy hhas hlk hat hkT
    go_wp2_with (go_at_call 55;refine HPL.out.mono ?_;rintro e9 w5 ⟨rfl,hw5,hb5⟩)
    have hsz5:=hb5.size
    have hrg5:=hrg1.kept (grown_below hb5 none) (by simp) (by simp)
    have HW5:=QQ1 hw5
    have HB5:=QQ1 (HB1.out.trans (hb5.mono HB1.out.size))
    clear hw5 hb5
    go_roundw
    case rel=>
     refine⟨_,cnt1,w1.heap.size,rfl,hrg5,HW5.out.coef fun y=>?_,HB5.out,by omega,by omega⟩
     rw[KW7 C c0 k T (dn:=dnF kf left) (by rw[Qj9 ((HKF.out _).trans HKT.out),HLK.out];rfl) (fun s=>XC0 HKF.out HKT.out _ (QF4 C s k)) y]
    case measure=>rw[hrg5.left_eq,hrg.left_eq];exact HLT.out
end Go.Proofs.YtjcagkgpbcdghaaDoor.Poly
