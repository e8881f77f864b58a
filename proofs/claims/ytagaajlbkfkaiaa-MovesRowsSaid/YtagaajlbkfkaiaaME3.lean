/- The walk of ref.set. Made by genme3.py. -/
import Derived.Test.YtagaajlbkfkaiaaME2
import Derived.Test.YtagaajlbkfkaiaaF1P
import Derived.Test.YtagaajlbkfkaiaaF5P
namespace Go.Proofs.Ytagaajlbkfkaiaa
open Go.RowKit
set_option maxHeartbeats 4000000
set_option maxRecDepth 100000
def Cr.at (x:Cr) (k:Nat) (v:Int):Cr:=if k=0 then⟨v,x.b,x.c,x.d,x.plus⟩ else if k=1 then⟨x.a,v,x.c,x.d,x.plus⟩ else if k=2 then⟨x.a,x.b,v,x.d,x.plus⟩ else⟨x.a,x.b,x.c,v,x.plus⟩
def setL (C:List Cr) (i k:Nat) (v:Int):List Cr:=C.set i ((C.getD i Cr.none).at k v)
theorem setL_len (C:List Cr) (i k:Nat) (v:Int):(setL C i k v).length=C.length:=List.length_set
theorem st5c {w:World} {g:Nat} {t:TypeId} {fz:Nat×Nat} {a b c d e:Value} (v0 v1 v2 v3 v4:Value) (h:w.heap[g]?=some (.cells #[a,b,c,d,e] t fz)):
    (((((w.setCell ⟨g,0,none⟩ v0).setCell ⟨g,1,none⟩ v1).setCell ⟨g,2,none⟩ v2).setCell ⟨g,3,none⟩ v3).setCell ⟨g,4,none⟩ v4).heap[g]?=some (.cells #[v0,v1,v2,v3,v4] t fz):=set_block (set_block (set_block (set_block (set_block h))))
theorem st5g (w:World) (g:Nat) (v0 v1 v2 v3 v4:Value):w.grownBy (((((w.setCell ⟨g,0,none⟩ v0).setCell ⟨g,1,none⟩ v1).setCell ⟨g,2,none⟩ v2).setCell ⟨g,3,none⟩ v3).setCell ⟨g,4,none⟩ v4) (some g):=grown_trans (grown_trans (grown_trans (grown_trans (set_grown _ _ _ _) (set_grown _ _ _ _)) (set_grown _ _ _ _)) (set_grown _ _ _ _)) (set_grown _ _ _ _)
theorem set_0 (B g c:Nat) (C:List Cr) (loops:Int) (i:Nat) (v:Int) (w:World) (hi:i<C.length) (_hl:C.length<=1000) (ho:w.ownsRow B 71 5 (.slice (some ⟨g,0,none⟩) C.length c) C.length (crossCells C)):
    Calls Try.prog 64 #[.agg #[.slice (some ⟨g,0,none⟩) C.length c,.int .i64 loops],.agg #[.int .i64 (i:Nat),.int .i64 0],.int .i64 v] w fun e w'=>e=.returned (.tuple #[])/\w'.ownsRow B 71 5 (.slice (some ⟨g,0,none⟩) C.length c) C.length (crossCells (setL C i 0 v))/\w.grownBy w' (some g):=by
 obtain⟨W0,hW⟩:∃ W0,(w.alloc (.cells #[.slice (some ⟨g,0,none⟩) C.length c,.int .i64 loops] 24)).alloc (.cells #[.int .i64 (i:Nat),.int .i64 0] 96)=W0:=⟨_,rfl⟩
 have HW:=hid_of hW
 have HB0:=hidB (show Below w.heap.size w W0 by rw[<-hW];exact below2 _ _ _)
 have hs0:W0.heap.size=w.heap.size+2:=by rw[<-hW];simp
 have k0:W0.heap[w.heap.size]?=some (.cells #[.slice (some ⟨g,0,none⟩) C.length c,.int .i64 loops] 24 (0,0)):=by rw[<-hW];exact alloc_old (alloc_at rfl)
 have k1:W0.heap[w.heap.size+1]?=some (.cells #[.int .i64 (i:Nat),.int .i64 0] 96 (0,0)):=by rw[<-hW];exact alloc_at (by simp)
 have HK0:=hid_of k0
 have HK1:=hid_of k1
 have HO0:=hidB (own_any ho (grown_below HB0.out none))
 have hg:=ho.lt g rfl
 clear hW ho
 have b0:=block_cell (i:=0) k0 rfl
 have b1:=block_cell (i:=0) k1 rfl
 have b2:=block_cell (i:=1) k1 rfl
 clear k0 k1
 obtain⟨x,hx⟩:∃ x,C.getD i Cr.none=x:=⟨_,rfl⟩
 have HXE:=hid_of hx
 have n0:∀ q,q<C.length*5->W0.cell? ⟨g,q,none⟩=(crossCells C)[q]?:=fun q hq=>HO0.out.cellAt q hq
 obtain⟨e0,e1,e2,e3,e4⟩:=cells_get C i hi
 rw[hx]at e0 e1 e2 e3 e4
 clear hx
 obtain⟨xa,xb,xc,xd,xp⟩:=x
 have o0:W0.cell? ⟨g,i*5,none⟩=some (.int .i64 xa):=(n0 (i*5) (by omega)).trans e0
 have o1:W0.cell? ⟨g,i*5+1,none⟩=some (.int .i64 xb):=(n0 (i*5+1) (by omega)).trans e1
 have o2:W0.cell? ⟨g,i*5+2,none⟩=some (.int .i64 xc):=(n0 (i*5+2) (by omega)).trans e2
 have o3:W0.cell? ⟨g,i*5+3,none⟩=some (.int .i64 xd):=(n0 (i*5+3) (by omega)).trans e3
 have o4:W0.cell? ⟨g,i*5+4,none⟩=some (.bool xp):=(n0 (i*5+4) (by omega)).trans e4
 clear n0 e0 e1 e2 e3 e4
 have ii0:(0:Int)<=(i:Int):=by omega
 have ii1:(i:Int)<(C.length:Int):=by omega
 have lg:g<W0.heap.size:=by omega
 have lw0:w.heap.size<W0.heap.size:=by omega
 have lw1:w.heap.size+1<W0.heap.size:=by omega
 go_enter Try.func64,Try.ntmps64
 go_upto_region 1 with(fail)
 rw[HW.out]
 obtain⟨Y,hY⟩:∃ Y,W0.alloc (.cells #[.int .i64 xa,.int .i64 xb,.int .i64 xc,.int .i64 xd,.bool xp] 71)=Y:=⟨_,rfl⟩
 have HY:=hid_of hY
 have HB1:=hidB (show Below W0.heap.size W0 Y by rw[<-hY];exact(Below.refl _ _).alloc (Nat.le_refl _) _)
 have HK2:=hidB (show Y.heap[w.heap.size+2]?=some (.cells #[.int .i64 xa,.int .i64 xb,.int .i64 xc,.int .i64 xd,.bool xp] 71 (0,0)) by rw[<-hY];exact alloc_at hs0.symm)
 have hs1:w.heap.size+3<=Y.heap.size:=by rw[<-hY];simp;omega
 clear hY
 go_upto_region 2 with(fail)
 rw[HY.out]
 clear b0 b1 o0 o1 o2 o3 o4
 have b3:Y.cell? ⟨w.heap.size+1,1,none⟩=some (.int .i64 0):=bcell HB1.out lw1 b2
 have b4:=block_cell (i:=0) HK2.out rfl
 have f4:=block_frozen (i:=0) HK2.out
 go_upto_region 11 with(fail)
 obtain⟨Z,hZ⟩:∃ Z,Y.setCell ⟨w.heap.size+2,0,none⟩ (.int .i64 v)=Z:=⟨_,rfl⟩
 have HG2:=hidB (show Y.grownBy Z (some (w.heap.size+2)) by rw[<-hZ];exact set_grown _ _ _ _)
 have hs2:Z.heap.size=Y.heap.size:=by rw[<-hZ];simp
 have k2:Z.heap[w.heap.size+2]?=some (.cells #[.int .i64 v,.int .i64 xb,.int .i64 xc,.int .i64 xd,.bool xp] 71 (0,0)):=by rw[<-hZ];exact set_block HK2.out
 rw[hZ]
 clear hZ b2 b3 b4 f4
 have k3:=((HG2.out.block _ (by omega) (fun e=>by have:=Option.some.inj e;omega)).trans (HB1.out.block _ lw0)).trans HK0.out
 have k4:=((HG2.out.block _ (by omega) (fun e=>by have:=Option.some.inj e;omega)).trans (HB1.out.block _ lw1)).trans HK1.out
 have HO2:Hid (Z.ownsRow B 71 5 (.slice (some ⟨g,0,none⟩) C.length c) C.length (crossCells C)):=(own_any HO0.out (grown_below HB1.out none)).kept HG2.out (Or.inr (fun e=>by have:g=w.heap.size+2:=Option.some.inj e;omega))
 have d0:=block_cell (i:=0) k3 rfl
 have d1:=block_cell (i:=0) k4 rfl
 have y0:=block_cell (i:=0) k2 rfl
 have y1:=block_cell (i:=1) k2 rfl
 have y2:=block_cell (i:=2) k2 rfl
 have y3:=block_cell (i:=3) k2 rfl
 have y4:=block_cell (i:=4) k2 rfl
 have n0:∀ q,q<C.length*5->Z.cell? ⟨g,q,none⟩=(crossCells C)[q]?:=fun q hq=>HO2.out.cellAt q hq
 obtain⟨e0,e1,e2,e3,e4⟩:=cells_get C i hi
 rw[HXE.out]at e0 e1 e2 e3 e4
 have o0:Z.cell? ⟨g,i*5,none⟩=some (.int .i64 xa):=(n0 (i*5) (by omega)).trans e0
 have o1:Z.cell? ⟨g,i*5+1,none⟩=some (.int .i64 xb):=(n0 (i*5+1) (by omega)).trans e1
 have o2:Z.cell? ⟨g,i*5+2,none⟩=some (.int .i64 xc):=(n0 (i*5+2) (by omega)).trans e2
 have o3:Z.cell? ⟨g,i*5+3,none⟩=some (.int .i64 xd):=(n0 (i*5+3) (by omega)).trans e3
 have o4:Z.cell? ⟨g,i*5+4,none⟩=some (.bool xp):=(n0 (i*5+4) (by omega)).trans e4
 have z0:Z.frozen? ⟨g,i*5,none⟩=false:=HO2.out.frozenAt _
 have z1:Z.frozen? ⟨g,i*5+1,none⟩=false:=HO2.out.frozenAt _
 have z2:Z.frozen? ⟨g,i*5+2,none⟩=false:=HO2.out.frozenAt _
 have z3:Z.frozen? ⟨g,i*5+3,none⟩=false:=HO2.out.frozenAt _
 have z4:Z.frozen? ⟨g,i*5+4,none⟩=false:=HO2.out.frozenAt _
 clear n0 e0 e1 e2 e3 e4 k2 k3 k4
 have lgz:g<Z.heap.size:=by omega
 go_wp2
 have h5:=put5R HO2.out hi ⟨v,xb,xc,xd,xp⟩
 refine bodyPost_end (results_none rfl _ _ _) rfl ?_
 refine⟨rfl,?_,?_⟩
 · have e:setL C i 0 v=C.set i ⟨v,xb,xc,xd,xp⟩:=by unfold setL;rw[HXE.out];rfl
   rw[e]
   exact h5.1
 · exact((grown_below (HB0.out.trans (HB1.out.mono (by omega))) (some g)).andThen HG2.out (fun j e=>Or.inl (by have:=Option.some.inj e;omega))).andThen h5.2 (fun j e=>Or.inr e)
theorem set_1 (B g c:Nat) (C:List Cr) (loops:Int) (i:Nat) (v:Int) (w:World) (hi:i<C.length) (_hl:C.length<=1000) (ho:w.ownsRow B 71 5 (.slice (some ⟨g,0,none⟩) C.length c) C.length (crossCells C)):
    Calls Try.prog 64 #[.agg #[.slice (some ⟨g,0,none⟩) C.length c,.int .i64 loops],.agg #[.int .i64 (i:Nat),.int .i64 1],.int .i64 v] w fun e w'=>e=.returned (.tuple #[])/\w'.ownsRow B 71 5 (.slice (some ⟨g,0,none⟩) C.length c) C.length (crossCells (setL C i 1 v))/\w.grownBy w' (some g):=by
 obtain⟨W0,hW⟩:∃ W0,(w.alloc (.cells #[.slice (some ⟨g,0,none⟩) C.length c,.int .i64 loops] 24)).alloc (.cells #[.int .i64 (i:Nat),.int .i64 1] 96)=W0:=⟨_,rfl⟩
 have HW:=hid_of hW
 have HB0:=hidB (show Below w.heap.size w W0 by rw[<-hW];exact below2 _ _ _)
 have hs0:W0.heap.size=w.heap.size+2:=by rw[<-hW];simp
 have k0:W0.heap[w.heap.size]?=some (.cells #[.slice (some ⟨g,0,none⟩) C.length c,.int .i64 loops] 24 (0,0)):=by rw[<-hW];exact alloc_old (alloc_at rfl)
 have k1:W0.heap[w.heap.size+1]?=some (.cells #[.int .i64 (i:Nat),.int .i64 1] 96 (0,0)):=by rw[<-hW];exact alloc_at (by simp)
 have HK0:=hid_of k0
 have HK1:=hid_of k1
 have HO0:=hidB (own_any ho (grown_below HB0.out none))
 have hg:=ho.lt g rfl
 clear hW ho
 have b0:=block_cell (i:=0) k0 rfl
 have b1:=block_cell (i:=0) k1 rfl
 have b2:=block_cell (i:=1) k1 rfl
 clear k0 k1
 obtain⟨x,hx⟩:∃ x,C.getD i Cr.none=x:=⟨_,rfl⟩
 have HXE:=hid_of hx
 have n0:∀ q,q<C.length*5->W0.cell? ⟨g,q,none⟩=(crossCells C)[q]?:=fun q hq=>HO0.out.cellAt q hq
 obtain⟨e0,e1,e2,e3,e4⟩:=cells_get C i hi
 rw[hx]at e0 e1 e2 e3 e4
 clear hx
 obtain⟨xa,xb,xc,xd,xp⟩:=x
 have o0:W0.cell? ⟨g,i*5,none⟩=some (.int .i64 xa):=(n0 (i*5) (by omega)).trans e0
 have o1:W0.cell? ⟨g,i*5+1,none⟩=some (.int .i64 xb):=(n0 (i*5+1) (by omega)).trans e1
 have o2:W0.cell? ⟨g,i*5+2,none⟩=some (.int .i64 xc):=(n0 (i*5+2) (by omega)).trans e2
 have o3:W0.cell? ⟨g,i*5+3,none⟩=some (.int .i64 xd):=(n0 (i*5+3) (by omega)).trans e3
 have o4:W0.cell? ⟨g,i*5+4,none⟩=some (.bool xp):=(n0 (i*5+4) (by omega)).trans e4
 clear n0 e0 e1 e2 e3 e4
 have ii0:(0:Int)<=(i:Int):=by omega
 have ii1:(i:Int)<(C.length:Int):=by omega
 have lg:g<W0.heap.size:=by omega
 have lw0:w.heap.size<W0.heap.size:=by omega
 have lw1:w.heap.size+1<W0.heap.size:=by omega
 go_enter Try.func64,Try.ntmps64
 go_upto_region 1 with(fail)
 rw[HW.out]
 obtain⟨Y,hY⟩:∃ Y,W0.alloc (.cells #[.int .i64 xa,.int .i64 xb,.int .i64 xc,.int .i64 xd,.bool xp] 71)=Y:=⟨_,rfl⟩
 have HY:=hid_of hY
 have HB1:=hidB (show Below W0.heap.size W0 Y by rw[<-hY];exact(Below.refl _ _).alloc (Nat.le_refl _) _)
 have HK2:=hidB (show Y.heap[w.heap.size+2]?=some (.cells #[.int .i64 xa,.int .i64 xb,.int .i64 xc,.int .i64 xd,.bool xp] 71 (0,0)) by rw[<-hY];exact alloc_at hs0.symm)
 have hs1:w.heap.size+3<=Y.heap.size:=by rw[<-hY];simp;omega
 clear hY
 go_upto_region 2 with(fail)
 rw[HY.out]
 clear b0 b1 o0 o1 o2 o3 o4
 have b3:Y.cell? ⟨w.heap.size+1,1,none⟩=some (.int .i64 1):=bcell HB1.out lw1 b2
 have b4:=block_cell (i:=1) HK2.out rfl
 have f4:=block_frozen (i:=1) HK2.out
 go_upto_region 11 with(fail)
 obtain⟨Z,hZ⟩:∃ Z,Y.setCell ⟨w.heap.size+2,1,none⟩ (.int .i64 v)=Z:=⟨_,rfl⟩
 have HG2:=hidB (show Y.grownBy Z (some (w.heap.size+2)) by rw[<-hZ];exact set_grown _ _ _ _)
 have hs2:Z.heap.size=Y.heap.size:=by rw[<-hZ];simp
 have k2:Z.heap[w.heap.size+2]?=some (.cells #[.int .i64 xa,.int .i64 v,.int .i64 xc,.int .i64 xd,.bool xp] 71 (0,0)):=by rw[<-hZ];exact set_block HK2.out
 rw[hZ]
 clear hZ b2 b3 b4 f4
 have k3:=((HG2.out.block _ (by omega) (fun e=>by have:=Option.some.inj e;omega)).trans (HB1.out.block _ lw0)).trans HK0.out
 have k4:=((HG2.out.block _ (by omega) (fun e=>by have:=Option.some.inj e;omega)).trans (HB1.out.block _ lw1)).trans HK1.out
 have HO2:Hid (Z.ownsRow B 71 5 (.slice (some ⟨g,0,none⟩) C.length c) C.length (crossCells C)):=(own_any HO0.out (grown_below HB1.out none)).kept HG2.out (Or.inr (fun e=>by have:g=w.heap.size+2:=Option.some.inj e;omega))
 have d0:=block_cell (i:=0) k3 rfl
 have d1:=block_cell (i:=0) k4 rfl
 have y0:=block_cell (i:=0) k2 rfl
 have y1:=block_cell (i:=1) k2 rfl
 have y2:=block_cell (i:=2) k2 rfl
 have y3:=block_cell (i:=3) k2 rfl
 have y4:=block_cell (i:=4) k2 rfl
 have n0:∀ q,q<C.length*5->Z.cell? ⟨g,q,none⟩=(crossCells C)[q]?:=fun q hq=>HO2.out.cellAt q hq
 obtain⟨e0,e1,e2,e3,e4⟩:=cells_get C i hi
 rw[HXE.out]at e0 e1 e2 e3 e4
 have o0:Z.cell? ⟨g,i*5,none⟩=some (.int .i64 xa):=(n0 (i*5) (by omega)).trans e0
 have o1:Z.cell? ⟨g,i*5+1,none⟩=some (.int .i64 xb):=(n0 (i*5+1) (by omega)).trans e1
 have o2:Z.cell? ⟨g,i*5+2,none⟩=some (.int .i64 xc):=(n0 (i*5+2) (by omega)).trans e2
 have o3:Z.cell? ⟨g,i*5+3,none⟩=some (.int .i64 xd):=(n0 (i*5+3) (by omega)).trans e3
 have o4:Z.cell? ⟨g,i*5+4,none⟩=some (.bool xp):=(n0 (i*5+4) (by omega)).trans e4
 have z0:Z.frozen? ⟨g,i*5,none⟩=false:=HO2.out.frozenAt _
 have z1:Z.frozen? ⟨g,i*5+1,none⟩=false:=HO2.out.frozenAt _
 have z2:Z.frozen? ⟨g,i*5+2,none⟩=false:=HO2.out.frozenAt _
 have z3:Z.frozen? ⟨g,i*5+3,none⟩=false:=HO2.out.frozenAt _
 have z4:Z.frozen? ⟨g,i*5+4,none⟩=false:=HO2.out.frozenAt _
 clear n0 e0 e1 e2 e3 e4 k2 k3 k4
 have lgz:g<Z.heap.size:=by omega
 go_wp2
 have h5:=put5R HO2.out hi ⟨xa,v,xc,xd,xp⟩
 refine bodyPost_end (results_none rfl _ _ _) rfl ?_
 refine⟨rfl,?_,?_⟩
 · have e:setL C i 1 v=C.set i ⟨xa,v,xc,xd,xp⟩:=by unfold setL;rw[HXE.out];rfl
   rw[e]
   exact h5.1
 · exact((grown_below (HB0.out.trans (HB1.out.mono (by omega))) (some g)).andThen HG2.out (fun j e=>Or.inl (by have:=Option.some.inj e;omega))).andThen h5.2 (fun j e=>Or.inr e)
theorem set_2 (B g c:Nat) (C:List Cr) (loops:Int) (i:Nat) (v:Int) (w:World) (hi:i<C.length) (_hl:C.length<=1000) (ho:w.ownsRow B 71 5 (.slice (some ⟨g,0,none⟩) C.length c) C.length (crossCells C)):
    Calls Try.prog 64 #[.agg #[.slice (some ⟨g,0,none⟩) C.length c,.int .i64 loops],.agg #[.int .i64 (i:Nat),.int .i64 2],.int .i64 v] w fun e w'=>e=.returned (.tuple #[])/\w'.ownsRow B 71 5 (.slice (some ⟨g,0,none⟩) C.length c) C.length (crossCells (setL C i 2 v))/\w.grownBy w' (some g):=by
 obtain⟨W0,hW⟩:∃ W0,(w.alloc (.cells #[.slice (some ⟨g,0,none⟩) C.length c,.int .i64 loops] 24)).alloc (.cells #[.int .i64 (i:Nat),.int .i64 2] 96)=W0:=⟨_,rfl⟩
 have HW:=hid_of hW
 have HB0:=hidB (show Below w.heap.size w W0 by rw[<-hW];exact below2 _ _ _)
 have hs0:W0.heap.size=w.heap.size+2:=by rw[<-hW];simp
 have k0:W0.heap[w.heap.size]?=some (.cells #[.slice (some ⟨g,0,none⟩) C.length c,.int .i64 loops] 24 (0,0)):=by rw[<-hW];exact alloc_old (alloc_at rfl)
 have k1:W0.heap[w.heap.size+1]?=some (.cells #[.int .i64 (i:Nat),.int .i64 2] 96 (0,0)):=by rw[<-hW];exact alloc_at (by simp)
 have HK0:=hid_of k0
 have HK1:=hid_of k1
 have HO0:=hidB (own_any ho (grown_below HB0.out none))
 have hg:=ho.lt g rfl
 clear hW ho
 have b0:=block_cell (i:=0) k0 rfl
 have b1:=block_cell (i:=0) k1 rfl
 have b2:=block_cell (i:=1) k1 rfl
 clear k0 k1
 obtain⟨x,hx⟩:∃ x,C.getD i Cr.none=x:=⟨_,rfl⟩
 have HXE:=hid_of hx
 have n0:∀ q,q<C.length*5->W0.cell? ⟨g,q,none⟩=(crossCells C)[q]?:=fun q hq=>HO0.out.cellAt q hq
 obtain⟨e0,e1,e2,e3,e4⟩:=cells_get C i hi
 rw[hx]at e0 e1 e2 e3 e4
 clear hx
 obtain⟨xa,xb,xc,xd,xp⟩:=x
 have o0:W0.cell? ⟨g,i*5,none⟩=some (.int .i64 xa):=(n0 (i*5) (by omega)).trans e0
 have o1:W0.cell? ⟨g,i*5+1,none⟩=some (.int .i64 xb):=(n0 (i*5+1) (by omega)).trans e1
 have o2:W0.cell? ⟨g,i*5+2,none⟩=some (.int .i64 xc):=(n0 (i*5+2) (by omega)).trans e2
 have o3:W0.cell? ⟨g,i*5+3,none⟩=some (.int .i64 xd):=(n0 (i*5+3) (by omega)).trans e3
 have o4:W0.cell? ⟨g,i*5+4,none⟩=some (.bool xp):=(n0 (i*5+4) (by omega)).trans e4
 clear n0 e0 e1 e2 e3 e4
 have ii0:(0:Int)<=(i:Int):=by omega
 have ii1:(i:Int)<(C.length:Int):=by omega
 have lg:g<W0.heap.size:=by omega
 have lw0:w.heap.size<W0.heap.size:=by omega
 have lw1:w.heap.size+1<W0.heap.size:=by omega
 go_enter Try.func64,Try.ntmps64
 go_upto_region 1 with(fail)
 rw[HW.out]
 obtain⟨Y,hY⟩:∃ Y,W0.alloc (.cells #[.int .i64 xa,.int .i64 xb,.int .i64 xc,.int .i64 xd,.bool xp] 71)=Y:=⟨_,rfl⟩
 have HY:=hid_of hY
 have HB1:=hidB (show Below W0.heap.size W0 Y by rw[<-hY];exact(Below.refl _ _).alloc (Nat.le_refl _) _)
 have HK2:=hidB (show Y.heap[w.heap.size+2]?=some (.cells #[.int .i64 xa,.int .i64 xb,.int .i64 xc,.int .i64 xd,.bool xp] 71 (0,0)) by rw[<-hY];exact alloc_at hs0.symm)
 have hs1:w.heap.size+3<=Y.heap.size:=by rw[<-hY];simp;omega
 clear hY
 go_upto_region 2 with(fail)
 rw[HY.out]
 clear b0 b1 o0 o1 o2 o3 o4
 have b3:Y.cell? ⟨w.heap.size+1,1,none⟩=some (.int .i64 2):=bcell HB1.out lw1 b2
 have b4:=block_cell (i:=2) HK2.out rfl
 have f4:=block_frozen (i:=2) HK2.out
 go_upto_region 11 with(fail)
 obtain⟨Z,hZ⟩:∃ Z,Y.setCell ⟨w.heap.size+2,2,none⟩ (.int .i64 v)=Z:=⟨_,rfl⟩
 have HG2:=hidB (show Y.grownBy Z (some (w.heap.size+2)) by rw[<-hZ];exact set_grown _ _ _ _)
 have hs2:Z.heap.size=Y.heap.size:=by rw[<-hZ];simp
 have k2:Z.heap[w.heap.size+2]?=some (.cells #[.int .i64 xa,.int .i64 xb,.int .i64 v,.int .i64 xd,.bool xp] 71 (0,0)):=by rw[<-hZ];exact set_block HK2.out
 rw[hZ]
 clear hZ b2 b3 b4 f4
 have k3:=((HG2.out.block _ (by omega) (fun e=>by have:=Option.some.inj e;omega)).trans (HB1.out.block _ lw0)).trans HK0.out
 have k4:=((HG2.out.block _ (by omega) (fun e=>by have:=Option.some.inj e;omega)).trans (HB1.out.block _ lw1)).trans HK1.out
 have HO2:Hid (Z.ownsRow B 71 5 (.slice (some ⟨g,0,none⟩) C.length c) C.length (crossCells C)):=(own_any HO0.out (grown_below HB1.out none)).kept HG2.out (Or.inr (fun e=>by have:g=w.heap.size+2:=Option.some.inj e;omega))
 have d0:=block_cell (i:=0) k3 rfl
 have d1:=block_cell (i:=0) k4 rfl
 have y0:=block_cell (i:=0) k2 rfl
 have y1:=block_cell (i:=1) k2 rfl
 have y2:=block_cell (i:=2) k2 rfl
 have y3:=block_cell (i:=3) k2 rfl
 have y4:=block_cell (i:=4) k2 rfl
 have n0:∀ q,q<C.length*5->Z.cell? ⟨g,q,none⟩=(crossCells C)[q]?:=fun q hq=>HO2.out.cellAt q hq
 obtain⟨e0,e1,e2,e3,e4⟩:=cells_get C i hi
 rw[HXE.out]at e0 e1 e2 e3 e4
 have o0:Z.cell? ⟨g,i*5,none⟩=some (.int .i64 xa):=(n0 (i*5) (by omega)).trans e0
 have o1:Z.cell? ⟨g,i*5+1,none⟩=some (.int .i64 xb):=(n0 (i*5+1) (by omega)).trans e1
 have o2:Z.cell? ⟨g,i*5+2,none⟩=some (.int .i64 xc):=(n0 (i*5+2) (by omega)).trans e2
 have o3:Z.cell? ⟨g,i*5+3,none⟩=some (.int .i64 xd):=(n0 (i*5+3) (by omega)).trans e3
 have o4:Z.cell? ⟨g,i*5+4,none⟩=some (.bool xp):=(n0 (i*5+4) (by omega)).trans e4
 have z0:Z.frozen? ⟨g,i*5,none⟩=false:=HO2.out.frozenAt _
 have z1:Z.frozen? ⟨g,i*5+1,none⟩=false:=HO2.out.frozenAt _
 have z2:Z.frozen? ⟨g,i*5+2,none⟩=false:=HO2.out.frozenAt _
 have z3:Z.frozen? ⟨g,i*5+3,none⟩=false:=HO2.out.frozenAt _
 have z4:Z.frozen? ⟨g,i*5+4,none⟩=false:=HO2.out.frozenAt _
 clear n0 e0 e1 e2 e3 e4 k2 k3 k4
 have lgz:g<Z.heap.size:=by omega
 go_wp2
 have h5:=put5R HO2.out hi ⟨xa,xb,v,xd,xp⟩
 refine bodyPost_end (results_none rfl _ _ _) rfl ?_
 refine⟨rfl,?_,?_⟩
 · have e:setL C i 2 v=C.set i ⟨xa,xb,v,xd,xp⟩:=by unfold setL;rw[HXE.out];rfl
   rw[e]
   exact h5.1
 · exact((grown_below (HB0.out.trans (HB1.out.mono (by omega))) (some g)).andThen HG2.out (fun j e=>Or.inl (by have:=Option.some.inj e;omega))).andThen h5.2 (fun j e=>Or.inr e)
theorem set_3 (B g c:Nat) (C:List Cr) (loops:Int) (i:Nat) (v:Int) (w:World) (hi:i<C.length) (_hl:C.length<=1000) (ho:w.ownsRow B 71 5 (.slice (some ⟨g,0,none⟩) C.length c) C.length (crossCells C)):
    Calls Try.prog 64 #[.agg #[.slice (some ⟨g,0,none⟩) C.length c,.int .i64 loops],.agg #[.int .i64 (i:Nat),.int .i64 3],.int .i64 v] w fun e w'=>e=.returned (.tuple #[])/\w'.ownsRow B 71 5 (.slice (some ⟨g,0,none⟩) C.length c) C.length (crossCells (setL C i 3 v))/\w.grownBy w' (some g):=by
 obtain⟨W0,hW⟩:∃ W0,(w.alloc (.cells #[.slice (some ⟨g,0,none⟩) C.length c,.int .i64 loops] 24)).alloc (.cells #[.int .i64 (i:Nat),.int .i64 3] 96)=W0:=⟨_,rfl⟩
 have HW:=hid_of hW
 have HB0:=hidB (show Below w.heap.size w W0 by rw[<-hW];exact below2 _ _ _)
 have hs0:W0.heap.size=w.heap.size+2:=by rw[<-hW];simp
 have k0:W0.heap[w.heap.size]?=some (.cells #[.slice (some ⟨g,0,none⟩) C.length c,.int .i64 loops] 24 (0,0)):=by rw[<-hW];exact alloc_old (alloc_at rfl)
 have k1:W0.heap[w.heap.size+1]?=some (.cells #[.int .i64 (i:Nat),.int .i64 3] 96 (0,0)):=by rw[<-hW];exact alloc_at (by simp)
 have HK0:=hid_of k0
 have HK1:=hid_of k1
 have HO0:=hidB (own_any ho (grown_below HB0.out none))
 have hg:=ho.lt g rfl
 clear hW ho
 have b0:=block_cell (i:=0) k0 rfl
 have b1:=block_cell (i:=0) k1 rfl
 have b2:=block_cell (i:=1) k1 rfl
 clear k0 k1
 obtain⟨x,hx⟩:∃ x,C.getD i Cr.none=x:=⟨_,rfl⟩
 have HXE:=hid_of hx
 have n0:∀ q,q<C.length*5->W0.cell? ⟨g,q,none⟩=(crossCells C)[q]?:=fun q hq=>HO0.out.cellAt q hq
 obtain⟨e0,e1,e2,e3,e4⟩:=cells_get C i hi
 rw[hx]at e0 e1 e2 e3 e4
 clear hx
 obtain⟨xa,xb,xc,xd,xp⟩:=x
 have o0:W0.cell? ⟨g,i*5,none⟩=some (.int .i64 xa):=(n0 (i*5) (by omega)).trans e0
 have o1:W0.cell? ⟨g,i*5+1,none⟩=some (.int .i64 xb):=(n0 (i*5+1) (by omega)).trans e1
 have o2:W0.cell? ⟨g,i*5+2,none⟩=some (.int .i64 xc):=(n0 (i*5+2) (by omega)).trans e2
 have o3:W0.cell? ⟨g,i*5+3,none⟩=some (.int .i64 xd):=(n0 (i*5+3) (by omega)).trans e3
 have o4:W0.cell? ⟨g,i*5+4,none⟩=some (.bool xp):=(n0 (i*5+4) (by omega)).trans e4
 clear n0 e0 e1 e2 e3 e4
 have ii0:(0:Int)<=(i:Int):=by omega
 have ii1:(i:Int)<(C.length:Int):=by omega
 have lg:g<W0.heap.size:=by omega
 have lw0:w.heap.size<W0.heap.size:=by omega
 have lw1:w.heap.size+1<W0.heap.size:=by omega
 go_enter Try.func64,Try.ntmps64
 go_upto_region 1 with(fail)
 rw[HW.out]
 obtain⟨Y,hY⟩:∃ Y,W0.alloc (.cells #[.int .i64 xa,.int .i64 xb,.int .i64 xc,.int .i64 xd,.bool xp] 71)=Y:=⟨_,rfl⟩
 have HY:=hid_of hY
 have HB1:=hidB (show Below W0.heap.size W0 Y by rw[<-hY];exact(Below.refl _ _).alloc (Nat.le_refl _) _)
 have HK2:=hidB (show Y.heap[w.heap.size+2]?=some (.cells #[.int .i64 xa,.int .i64 xb,.int .i64 xc,.int .i64 xd,.bool xp] 71 (0,0)) by rw[<-hY];exact alloc_at hs0.symm)
 have hs1:w.heap.size+3<=Y.heap.size:=by rw[<-hY];simp;omega
 clear hY
 go_upto_region 2 with(fail)
 rw[HY.out]
 clear b0 b1 o0 o1 o2 o3 o4
 have b3:Y.cell? ⟨w.heap.size+1,1,none⟩=some (.int .i64 3):=bcell HB1.out lw1 b2
 have b4:=block_cell (i:=3) HK2.out rfl
 have f4:=block_frozen (i:=3) HK2.out
 go_upto_region 11 with(fail)
 obtain⟨Z,hZ⟩:∃ Z,Y.setCell ⟨w.heap.size+2,3,none⟩ (.int .i64 v)=Z:=⟨_,rfl⟩
 have HG2:=hidB (show Y.grownBy Z (some (w.heap.size+2)) by rw[<-hZ];exact set_grown _ _ _ _)
 have hs2:Z.heap.size=Y.heap.size:=by rw[<-hZ];simp
 have k2:Z.heap[w.heap.size+2]?=some (.cells #[.int .i64 xa,.int .i64 xb,.int .i64 xc,.int .i64 v,.bool xp] 71 (0,0)):=by rw[<-hZ];exact set_block HK2.out
 rw[hZ]
 clear hZ b2 b3 b4 f4
 have k3:=((HG2.out.block _ (by omega) (fun e=>by have:=Option.some.inj e;omega)).trans (HB1.out.block _ lw0)).trans HK0.out
 have k4:=((HG2.out.block _ (by omega) (fun e=>by have:=Option.some.inj e;omega)).trans (HB1.out.block _ lw1)).trans HK1.out
 have HO2:Hid (Z.ownsRow B 71 5 (.slice (some ⟨g,0,none⟩) C.length c) C.length (crossCells C)):=(own_any HO0.out (grown_below HB1.out none)).kept HG2.out (Or.inr (fun e=>by have:g=w.heap.size+2:=Option.some.inj e;omega))
 have d0:=block_cell (i:=0) k3 rfl
 have d1:=block_cell (i:=0) k4 rfl
 have y0:=block_cell (i:=0) k2 rfl
 have y1:=block_cell (i:=1) k2 rfl
 have y2:=block_cell (i:=2) k2 rfl
 have y3:=block_cell (i:=3) k2 rfl
 have y4:=block_cell (i:=4) k2 rfl
 have n0:∀ q,q<C.length*5->Z.cell? ⟨g,q,none⟩=(crossCells C)[q]?:=fun q hq=>HO2.out.cellAt q hq
 obtain⟨e0,e1,e2,e3,e4⟩:=cells_get C i hi
 rw[HXE.out]at e0 e1 e2 e3 e4
 have o0:Z.cell? ⟨g,i*5,none⟩=some (.int .i64 xa):=(n0 (i*5) (by omega)).trans e0
 have o1:Z.cell? ⟨g,i*5+1,none⟩=some (.int .i64 xb):=(n0 (i*5+1) (by omega)).trans e1
 have o2:Z.cell? ⟨g,i*5+2,none⟩=some (.int .i64 xc):=(n0 (i*5+2) (by omega)).trans e2
 have o3:Z.cell? ⟨g,i*5+3,none⟩=some (.int .i64 xd):=(n0 (i*5+3) (by omega)).trans e3
 have o4:Z.cell? ⟨g,i*5+4,none⟩=some (.bool xp):=(n0 (i*5+4) (by omega)).trans e4
 have z0:Z.frozen? ⟨g,i*5,none⟩=false:=HO2.out.frozenAt _
 have z1:Z.frozen? ⟨g,i*5+1,none⟩=false:=HO2.out.frozenAt _
 have z2:Z.frozen? ⟨g,i*5+2,none⟩=false:=HO2.out.frozenAt _
 have z3:Z.frozen? ⟨g,i*5+3,none⟩=false:=HO2.out.frozenAt _
 have z4:Z.frozen? ⟨g,i*5+4,none⟩=false:=HO2.out.frozenAt _
 clear n0 e0 e1 e2 e3 e4 k2 k3 k4
 have lgz:g<Z.heap.size:=by omega
 go_wp2
 have h5:=put5R HO2.out hi ⟨xa,xb,xc,v,xp⟩
 refine bodyPost_end (results_none rfl _ _ _) rfl ?_
 refine⟨rfl,?_,?_⟩
 · have e:setL C i 3 v=C.set i ⟨xa,xb,xc,v,xp⟩:=by unfold setL;rw[HXE.out];rfl
   rw[e]
   exact h5.1
 · exact((grown_below (HB0.out.trans (HB1.out.mono (by omega))) (some g)).andThen HG2.out (fun j e=>Or.inl (by have:=Option.some.inj e;omega))).andThen h5.2 (fun j e=>Or.inr e)
theorem set_any (B g c:Nat) (C:List Cr) (loops:Int) (i k:Nat) (v:Int) (w:World) (hk:k<4) (hi:i<C.length) (hl:C.length<=1000) (ho:w.ownsRow B 71 5 (.slice (some ⟨g,0,none⟩) C.length c) C.length (crossCells C)):
    Calls Try.prog 64 #[.agg #[.slice (some ⟨g,0,none⟩) C.length c,.int .i64 loops],.agg #[.int .i64 (i:Nat),.int .i64 (k:Nat)],.int .i64 v] w fun e w'=>e=.returned (.tuple #[])/\w'.ownsRow B 71 5 (.slice (some ⟨g,0,none⟩) C.length c) C.length (crossCells (setL C i k v))/\w.grownBy w' (some g):=by
 have h4:k=0∨k=1∨k=2∨k=3:=by omega
 rcases h4 with rfl|rfl|rfl|rfl
 · exact set_0 B g c C loops i v w hi hl ho
 · exact set_1 B g c C loops i v w hi hl ho
 · exact set_2 B g c C loops i v w hi hl ho
 · exact set_3 B g c C loops i v w hi hl ho
end Go.Proofs.Ytagaajlbkfkaiaa
