/- Several texts of the proof, one behind the other. -/
import Derived.Test.YtiliihlkpknhdaaDoorBT2
import Derived.Test.YtiliihlkpknhdaaDoorBaseP
import Derived.Deep.Cut
import Derived.Test.YtiliihlkpknhdaaDoorZ0P
import Derived.Test.YtiliihlkpknhdaaDoorO0P
/- Burau's tables: the walk of closure.block. -/
namespace Go.Proofs.YtiliihlkpknhdaaDoor.Poly
open Go.RowKit Go.Maps
set_option maxHeartbeats 4000000
set_option maxRecDepth 100000
theorem lit_put {w : World} {b n : Nat} {D : DataW Unit} {k c : Int} (h : w.ownsMap Tryd.prog 3 (plainElem Tryd.prog 3) b n D) (hn : n < 1000) (hk : -1000 ≤ k ∧ k ≤ 1000) (hc : -1000 ≤ c ∧ c ≤ 1000) :
    ∃ w',(Instr.mapUpdate 60 (.map (some b)) (.int .i64 k) (.int .i64 c)).run Tryd.prog w=.ok () w'/\w'.ownsMap Tryd.prog 3 (plainElem Tryd.prog 3) b (n+1) (D.put (.int .i64 k) (.lit (.int .i64 c)))/\w.grownBy w' (some b):=by
 obtain⟨w2,h1,h2,h3⟩:=h.update law3 Tryd.underlying60 (by unfold maxLen;omega) (keyOf_int_mk Tryd.underlying3 (WalkArith.wf_i64 (by omega : -9223372036854775808<=k/\k<=9223372036854775807))) (plainElem_int Tryd.underlying3 (WalkArith.wf_i64 (by omega : -9223372036854775808<=c/\c<=9223372036854775807)))
 exact⟨w2,h1,h2,h3⟩
theorem makeN (w:World):(Instr.makeMap 60 none).run Tryd.prog w=.ok (.map (some w.heap.size)) (w.alloc (.map #[] 0)):=rfl
def LiD (D:DataW Unit) (ql:List (Int×Int)):Prop:=KeysIn D 1/\∀ y,coefOf D y=coefL ql y
theorem liD_nil:LiD (.map []) []:=⟨fun x hx=>(by cases hx),fun y=>coefOf_none rfl⟩
theorem LiD.put {D:DataW Unit} {ql:List (Int×Int)} (h:LiD D ql) (hD:IsMap D) (k c:Int) (hk : -1<=k/\k<=1) (h0:coefL ql k=0):LiD (D.put (.int .i64 k) (.lit (.int .i64 c))) ((k,c)::ql):=by
 refine⟨keysIn_put h.1 hk.1 hk.2 _,fun y=>?_⟩
 rw[coefOf_put hD]
 show _=(if k=y then c else 0)+coefL ql y
 by_cases e:k=y
 · rw[if_pos e,if_pos e,<-e,h0];omega
 · rw[if_neg e,if_neg e,h.2];omega
structure BlV (w:World) (B a b c d:Nat) (x:Int):Prop where
 a:LiV w B a (if 0<x then [(0,1),(1,-1)] else [])
 b:LiV w B b (if 0<x then [(1,1)] else [(0,1)])
 c:LiV w B c (if 0<x then [(0,1)] else [(-1,1)])
 d:LiV w B d (if 0<x then [] else [(-1,-1),(0,1)])
theorem coefL_swap (s t:Int×Int) (y:Int):coefL [s,t] y=coefL [t,s] y:=by
 simp only[coefL]
 omega
theorem grown_newP {a b c:World} {g:Nat} (h:a.grownBy b none) (k:b.grownBy c (some g)) (hg:a.heap.size<=g):a.grownBy c none:=
 ⟨k.os.trans h.os,k.tape.trans h.tape,k.output.trans h.output,Nat.le_trans h.size k.size,fun j hj _=>(k.block j (Nat.lt_of_lt_of_le hj h.size) (fun e=>by have:=Option.some.inj e;omega)).trans (h.block j hj (by simp))⟩
theorem grown_noneP {a b c:World} (h:a.grownBy b none) (k:b.grownBy c none):a.grownBy c none:=
 ⟨k.os.trans h.os,k.tape.trans h.tape,k.output.trans h.output,Nat.le_trans h.size k.size,fun j hj _=>(k.block j (Nat.lt_of_lt_of_le hj h.size) (by simp)).trans (h.block j hj (by simp))⟩
theorem block_any (x : Int) (w : World) :
    Calls Tryd.prog 38 #[.int .i64 x] w fun e w'=>∃ a b c d,e=.returned (.agg #[.map (some a),.map (some b),.map (some c),.map (some d)])/\BlV w' w'.heap.size a b c d x/\Below w.heap.size w w':=by
 have hmk:=makeN
 obtain⟨Y,hY⟩:∃ Y,Y=w.alloc (.cells #[.map none,.map none,.map none,.map none] 75):=⟨_,rfl⟩
 have HY:=hid_mkP hY
 have HBY:Hid (Below w.heap.size w Y):=(by rw[hY];exact(Below.refl _ _).alloc (Nat.le_refl _) _:Below w.heap.size w Y)
 have HT:Hid (Y.heap[w.heap.size]?=some (.cells #[.map none,.map none,.map none,.map none] 75 (0,0))):=(by rw[hY];exact Array.getElem?_push_size:Y.heap[w.heap.size]?=some (.cells #[.map none,.map none,.map none,.map none] 75 (0,0)))
 have hsY:w.heap.size<Y.heap.size:=by rw[hY];simp
 clear hY
 by_cases hx:0<x
 · have oa0:(Y.alloc (.map #[] 0)).ownsMap Tryd.prog 3 (plainElem Tryd.prog 3) Y.heap.size 0 (.map []:DataW Unit):=World.ownsMap_made _ _ _ _
   have la0:=liD_nil
   have ka0:Y.grownBy (Y.alloc (.map #[] 0)) none:=World.grownBy_alloc _ _ _
   obtain⟨wa1,ra1,oa1,ga1⟩:=lit_put (k:=0) (c:=1) oa0 (by omega) (by omega) (by omega)
   have la1:=la0.put oa0.isMap (0) (1) (by omega) (by decide)
   have ka1:Y.grownBy wa1 none:=grown_newP ka0 ga1 (Nat.le_refl _)
   obtain⟨wa2,ra2,oa2,ga2⟩:=lit_put (k:=1) (c := -1) oa1 (by omega) (by omega) (by omega)
   have la2:=la1.put oa1.isMap (1) (-1) (by omega) (by decide)
   have ka2:Y.grownBy wa2 none:=grown_newP ka1 ga2 (Nat.le_refl _)
   have ob0:(wa2.alloc (.map #[] 0)).ownsMap Tryd.prog 3 (plainElem Tryd.prog 3) wa2.heap.size 0 (.map []:DataW Unit):=World.ownsMap_made _ _ _ _
   have lb0:=liD_nil
   have kb0:wa2.grownBy (wa2.alloc (.map #[] 0)) none:=World.grownBy_alloc _ _ _
   obtain⟨wb1,rb1,ob1,gb1⟩:=lit_put (k:=1) (c:=1) ob0 (by omega) (by omega) (by omega)
   have lb1:=lb0.put ob0.isMap (1) (1) (by omega) (by decide)
   have kb1:wa2.grownBy wb1 none:=grown_newP kb0 gb1 (Nat.le_refl _)
   have oc0:(wb1.alloc (.map #[] 0)).ownsMap Tryd.prog 3 (plainElem Tryd.prog 3) wb1.heap.size 0 (.map []:DataW Unit):=World.ownsMap_made _ _ _ _
   have lc0:=liD_nil
   have kc0:wb1.grownBy (wb1.alloc (.map #[] 0)) none:=World.grownBy_alloc _ _ _
   obtain⟨wc1,rc1,oc1,gc1⟩:=lit_put (k:=0) (c:=1) oc0 (by omega) (by omega) (by omega)
   have lc1:=lc0.put oc0.isMap (0) (1) (by omega) (by decide)
   have kc1:wb1.grownBy wc1 none:=grown_newP kc0 gc1 (Nat.le_refl _)
   have od0:(wc1.alloc (.map #[] 0)).ownsMap Tryd.prog 3 (plainElem Tryd.prog 3) wc1.heap.size 0 (.map []:DataW Unit):=World.ownsMap_made _ _ _ _
   have ld0:=liD_nil
   have kd0:wc1.grownBy (wc1.alloc (.map #[] 0)) none:=World.grownBy_alloc _ _ _
   obtain⟨wd0,hdw⟩:∃ z,z=(wc1.alloc (.map #[] 0)):=⟨_,rfl⟩
   rw[<-hdw]at od0 kd0
   have Hdw:=hid_mkP hdw
   clear hdw
   have HOa:=hid_mkP oa2
   have HGa:=hid_mkP ka2
   have HLa:=hid_mkP la2
   have HOb:=hid_mkP ob1
   have HGb:=hid_mkP kb1
   have HLb:=hid_mkP lb1
   have HOc:=hid_mkP oc1
   have HGc:=hid_mkP kc1
   have HLc:=hid_mkP lc1
   have HOd:=hid_mkP od0
   have HGd:=hid_mkP kd0
   have HLd:=hid_mkP ld0
   have HGG:=hid_mkP (grown_noneP (grown_noneP (grown_noneP HGa.out HGb.out) HGc.out) HGd.out)
   have HT2:Hid (wd0.heap[w.heap.size]?=some (.cells #[.map none,.map none,.map none,.map none] 75 (0,0))):=(HGG.out.block _ hsY (by simp)).trans HT.out
   have c0:wd0.cell? ⟨w.heap.size,0,none⟩=some (.map none):=block_cell HT2.out rfl
   have f0:wd0.frozen? ⟨w.heap.size,0,none⟩=false:=block_frozen HT2.out
   have c1:wd0.cell? ⟨w.heap.size,1,none⟩=some (.map none):=block_cell HT2.out rfl
   have f1:wd0.frozen? ⟨w.heap.size,1,none⟩=false:=block_frozen HT2.out
   have c2:wd0.cell? ⟨w.heap.size,2,none⟩=some (.map none):=block_cell HT2.out rfl
   have f2:wd0.frozen? ⟨w.heap.size,2,none⟩=false:=block_frozen HT2.out
   have c3:wd0.cell? ⟨w.heap.size,3,none⟩=some (.map none):=block_cell HT2.out rfl
   have f3:wd0.frozen? ⟨w.heap.size,3,none⟩=false:=block_frozen HT2.out
   have lf:=(Array.getElem?_eq_some_iff.1 HT2.out).1
   clear oa2 la2 ka2
   clear ob1 lb1 kb1
   clear oc1 lc1 kc1
   clear od0 ld0 kd0
   have hwd:=Hdw.out.symm
   go_enter Tryd.func38,Tryd.ntmps38
   go_upto_region 2 with(fail)
   rw[<-HY.out]
   go_wp2
   have hz0:=HGa.out.size
   have hz1:=HGb.out.size
   have hz2:=HGc.out.size
   have hz3:=HGd.out.size
   obtain⟨Z,hZ⟩:∃ Z,Z=(((wd0.setCell ⟨w.heap.size,0,none⟩ (.map (some Y.heap.size))).setCell ⟨w.heap.size,1,none⟩ (.map (some wa2.heap.size))).setCell ⟨w.heap.size,2,none⟩ (.map (some wb1.heap.size))).setCell ⟨w.heap.size,3,none⟩ (.map (some wc1.heap.size)):=⟨_,rfl⟩
   have hzb:Z.heap[w.heap.size]?=some (.cells #[.map (some Y.heap.size),.map (some wa2.heap.size),.map (some wb1.heap.size),.map (some wc1.heap.size)] 75 (0,0)):=by rw[hZ,set_block (set_block (set_block (set_block HT2.out)))];rfl
   have hgZ:wd0.grownBy Z (some w.heap.size):=by rw[hZ];exact grown_trans (grown_trans (grown_trans (set_grown _ _ _ _) (set_grown _ _ _ _)) (set_grown _ _ _ _)) (set_grown _ _ _ _)
   have hzz:=hgZ.size
   rw[<-hZ]
   have x0:Z.cell? ⟨w.heap.size,0,none⟩=some (.map (some Y.heap.size)):=block_cell hzb rfl
   have x1:Z.cell? ⟨w.heap.size,1,none⟩=some (.map (some wa2.heap.size)):=block_cell hzb rfl
   have x2:Z.cell? ⟨w.heap.size,2,none⟩=some (.map (some wb1.heap.size)):=block_cell hzb rfl
   have x3:Z.cell? ⟨w.heap.size,3,none⟩=some (.map (some wc1.heap.size)):=block_cell hzb rfl
   have hb0:Y.heap.size<Z.heap.size:=by have h1:=(((HOa.out.kept HGb.out (by simp)).kept HGc.out (by simp)).kept HGd.out (by simp)).lt;omega
   have hk0:=((((HOa.out.kept HGb.out (by simp)).kept HGc.out (by simp)).kept HGd.out (by simp)).kept hgZ (fun e=>by have:=Option.some.inj e;omega)).mono (show 2<=2 by decide)
   have hb1:wa2.heap.size<Z.heap.size:=by have h1:=((HOb.out.kept HGc.out (by simp)).kept HGd.out (by simp)).lt;omega
   have hk1:=(((HOb.out.kept HGc.out (by simp)).kept HGd.out (by simp)).kept hgZ (fun e=>by have:=Option.some.inj e;omega)).mono (show 1<=2 by decide)
   have hb2:wb1.heap.size<Z.heap.size:=by have h1:=(HOc.out.kept HGd.out (by simp)).lt;omega
   have hk2:=((HOc.out.kept HGd.out (by simp)).kept hgZ (fun e=>by have:=Option.some.inj e;omega)).mono (show 1<=2 by decide)
   have hb3:wc1.heap.size<Z.heap.size:=by have h1:=HOd.out.lt;omega
   have hk3:=(HOd.out.kept hgZ (fun e=>by have:=Option.some.inj e;omega)).mono (show 0<=2 by decide)
   refine bodyPost_ret (v:=.agg #[.map (some Y.heap.size),.map (some wa2.heap.size),.map (some wb1.heap.size),.map (some wc1.heap.size)]) (by simp[results,Tryd.results38,go_sem,x0,x1,x2,x3]) rfl ⟨_,_,_,_,rfl,⟨?_,?_,?_,?_⟩,(HBY.out.grown HGG.out HBY.out.size (fun q hq=>by cases hq)).grown hgZ (Nat.le_trans HBY.out.size HGG.out.size) (fun q hq=>by have:=Option.some.inj hq;omega)⟩
   · rw[if_pos hx];exact⟨hb0,_,hk0,HLa.out.1,(fun y=>(HLa.out.2 y).trans (coefL_swap _ _ y))⟩
   · rw[if_pos hx];exact⟨hb1,_,hk1,HLb.out.1,HLb.out.2⟩
   · rw[if_pos hx];exact⟨hb2,_,hk2,HLc.out.1,HLc.out.2⟩
   · rw[if_pos hx];exact⟨hb3,_,hk3,HLd.out.1,HLd.out.2⟩
 · have oa0:(Y.alloc (.map #[] 0)).ownsMap Tryd.prog 3 (plainElem Tryd.prog 3) Y.heap.size 0 (.map []:DataW Unit):=World.ownsMap_made _ _ _ _
   have la0:=liD_nil
   have ka0:Y.grownBy (Y.alloc (.map #[] 0)) none:=World.grownBy_alloc _ _ _
   obtain⟨wa0,haw⟩:∃ z,z=(Y.alloc (.map #[] 0)):=⟨_,rfl⟩
   rw[<-haw]at oa0 ka0
   have Haw:=hid_mkP haw
   clear haw
   have ob0:(wa0.alloc (.map #[] 0)).ownsMap Tryd.prog 3 (plainElem Tryd.prog 3) wa0.heap.size 0 (.map []:DataW Unit):=World.ownsMap_made _ _ _ _
   have lb0:=liD_nil
   have kb0:wa0.grownBy (wa0.alloc (.map #[] 0)) none:=World.grownBy_alloc _ _ _
   obtain⟨wb1,rb1,ob1,gb1⟩:=lit_put (k:=0) (c:=1) ob0 (by omega) (by omega) (by omega)
   have lb1:=lb0.put ob0.isMap (0) (1) (by omega) (by decide)
   have kb1:wa0.grownBy wb1 none:=grown_newP kb0 gb1 (Nat.le_refl _)
   have oc0:(wb1.alloc (.map #[] 0)).ownsMap Tryd.prog 3 (plainElem Tryd.prog 3) wb1.heap.size 0 (.map []:DataW Unit):=World.ownsMap_made _ _ _ _
   have lc0:=liD_nil
   have kc0:wb1.grownBy (wb1.alloc (.map #[] 0)) none:=World.grownBy_alloc _ _ _
   obtain⟨wc1,rc1,oc1,gc1⟩:=lit_put (k := -1) (c:=1) oc0 (by omega) (by omega) (by omega)
   have lc1:=lc0.put oc0.isMap (-1) (1) (by omega) (by decide)
   have kc1:wb1.grownBy wc1 none:=grown_newP kc0 gc1 (Nat.le_refl _)
   have od0:(wc1.alloc (.map #[] 0)).ownsMap Tryd.prog 3 (plainElem Tryd.prog 3) wc1.heap.size 0 (.map []:DataW Unit):=World.ownsMap_made _ _ _ _
   have ld0:=liD_nil
   have kd0:wc1.grownBy (wc1.alloc (.map #[] 0)) none:=World.grownBy_alloc _ _ _
   obtain⟨wd1,rd1,od1,gd1⟩:=lit_put (k := -1) (c := -1) od0 (by omega) (by omega) (by omega)
   have ld1:=ld0.put od0.isMap (-1) (-1) (by omega) (by decide)
   have kd1:wc1.grownBy wd1 none:=grown_newP kd0 gd1 (Nat.le_refl _)
   obtain⟨wd2,rd2,od2,gd2⟩:=lit_put (k:=0) (c:=1) od1 (by omega) (by omega) (by omega)
   have ld2:=ld1.put od1.isMap (0) (1) (by omega) (by decide)
   have kd2:wc1.grownBy wd2 none:=grown_newP kd1 gd2 (Nat.le_refl _)
   have HOa:=hid_mkP oa0
   have HGa:=hid_mkP ka0
   have HLa:=hid_mkP la0
   have HOb:=hid_mkP ob1
   have HGb:=hid_mkP kb1
   have HLb:=hid_mkP lb1
   have HOc:=hid_mkP oc1
   have HGc:=hid_mkP kc1
   have HLc:=hid_mkP lc1
   have HOd:=hid_mkP od2
   have HGd:=hid_mkP kd2
   have HLd:=hid_mkP ld2
   have HGG:=hid_mkP (grown_noneP (grown_noneP (grown_noneP HGa.out HGb.out) HGc.out) HGd.out)
   have HT2:Hid (wd2.heap[w.heap.size]?=some (.cells #[.map none,.map none,.map none,.map none] 75 (0,0))):=(HGG.out.block _ hsY (by simp)).trans HT.out
   have c0:wd2.cell? ⟨w.heap.size,0,none⟩=some (.map none):=block_cell HT2.out rfl
   have f0:wd2.frozen? ⟨w.heap.size,0,none⟩=false:=block_frozen HT2.out
   have c1:wd2.cell? ⟨w.heap.size,1,none⟩=some (.map none):=block_cell HT2.out rfl
   have f1:wd2.frozen? ⟨w.heap.size,1,none⟩=false:=block_frozen HT2.out
   have c2:wd2.cell? ⟨w.heap.size,2,none⟩=some (.map none):=block_cell HT2.out rfl
   have f2:wd2.frozen? ⟨w.heap.size,2,none⟩=false:=block_frozen HT2.out
   have c3:wd2.cell? ⟨w.heap.size,3,none⟩=some (.map none):=block_cell HT2.out rfl
   have f3:wd2.frozen? ⟨w.heap.size,3,none⟩=false:=block_frozen HT2.out
   have lf:=(Array.getElem?_eq_some_iff.1 HT2.out).1
   clear oa0 la0 ka0
   clear ob1 lb1 kb1
   clear oc1 lc1 kc1
   clear od2 ld2 kd2
   have hwa:=Haw.out.symm
   go_enter Tryd.func38,Tryd.ntmps38
   go_upto_region 3 with(fail)
   rw[<-HY.out]
   go_wp2
   have hz0:=HGa.out.size
   have hz1:=HGb.out.size
   have hz2:=HGc.out.size
   have hz3:=HGd.out.size
   obtain⟨Z,hZ⟩:∃ Z,Z=(((wd2.setCell ⟨w.heap.size,0,none⟩ (.map (some Y.heap.size))).setCell ⟨w.heap.size,1,none⟩ (.map (some wa0.heap.size))).setCell ⟨w.heap.size,2,none⟩ (.map (some wb1.heap.size))).setCell ⟨w.heap.size,3,none⟩ (.map (some wc1.heap.size)):=⟨_,rfl⟩
   have hzb:Z.heap[w.heap.size]?=some (.cells #[.map (some Y.heap.size),.map (some wa0.heap.size),.map (some wb1.heap.size),.map (some wc1.heap.size)] 75 (0,0)):=by rw[hZ,set_block (set_block (set_block (set_block HT2.out)))];rfl
   have hgZ:wd2.grownBy Z (some w.heap.size):=by rw[hZ];exact grown_trans (grown_trans (grown_trans (set_grown _ _ _ _) (set_grown _ _ _ _)) (set_grown _ _ _ _)) (set_grown _ _ _ _)
   have hzz:=hgZ.size
   rw[<-hZ]
   have x0:Z.cell? ⟨w.heap.size,0,none⟩=some (.map (some Y.heap.size)):=block_cell hzb rfl
   have x1:Z.cell? ⟨w.heap.size,1,none⟩=some (.map (some wa0.heap.size)):=block_cell hzb rfl
   have x2:Z.cell? ⟨w.heap.size,2,none⟩=some (.map (some wb1.heap.size)):=block_cell hzb rfl
   have x3:Z.cell? ⟨w.heap.size,3,none⟩=some (.map (some wc1.heap.size)):=block_cell hzb rfl
   have hb0:Y.heap.size<Z.heap.size:=by have h1:=(((HOa.out.kept HGb.out (by simp)).kept HGc.out (by simp)).kept HGd.out (by simp)).lt;omega
   have hk0:=((((HOa.out.kept HGb.out (by simp)).kept HGc.out (by simp)).kept HGd.out (by simp)).kept hgZ (fun e=>by have:=Option.some.inj e;omega)).mono (show 0<=2 by decide)
   have hb1:wa0.heap.size<Z.heap.size:=by have h1:=((HOb.out.kept HGc.out (by simp)).kept HGd.out (by simp)).lt;omega
   have hk1:=(((HOb.out.kept HGc.out (by simp)).kept HGd.out (by simp)).kept hgZ (fun e=>by have:=Option.some.inj e;omega)).mono (show 1<=2 by decide)
   have hb2:wb1.heap.size<Z.heap.size:=by have h1:=(HOc.out.kept HGd.out (by simp)).lt;omega
   have hk2:=((HOc.out.kept HGd.out (by simp)).kept hgZ (fun e=>by have:=Option.some.inj e;omega)).mono (show 1<=2 by decide)
   have hb3:wc1.heap.size<Z.heap.size:=by have h1:=HOd.out.lt;omega
   have hk3:=(HOd.out.kept hgZ (fun e=>by have:=Option.some.inj e;omega)).mono (show 2<=2 by decide)
   refine bodyPost_ret (v:=.agg #[.map (some Y.heap.size),.map (some wa0.heap.size),.map (some wb1.heap.size),.map (some wc1.heap.size)]) (by simp[results,Tryd.results38,go_sem,x0,x1,x2,x3]) rfl ⟨_,_,_,_,rfl,⟨?_,?_,?_,?_⟩,(HBY.out.grown HGG.out HBY.out.size (fun q hq=>by cases hq)).grown hgZ (Nat.le_trans HBY.out.size HGG.out.size) (fun q hq=>by have:=Option.some.inj hq;omega)⟩
   · rw[if_neg (by omega)];exact⟨hb0,_,hk0,HLa.out.1,HLa.out.2⟩
   · rw[if_neg (by omega)];exact⟨hb1,_,hk1,HLb.out.1,HLb.out.2⟩
   · rw[if_neg (by omega)];exact⟨hb2,_,hk2,HLc.out.1,HLc.out.2⟩
   · rw[if_neg (by omega)];exact⟨hb3,_,hk3,HLd.out.1,(fun y=>(HLd.out.2 y).trans (coefL_swap _ _ y))⟩
end Go.Proofs.YtiliihlkpknhdaaDoor.Poly
/- Burau's tables at work; the walk of closure.unit. -/
namespace Go.Proofs.YtiliihlkpknhdaaDoor.Poly
open Go.RowKit Go.Maps
theorem infoW:(Tryd.prog.info? 60).map (fun i=>(i.zero,i.size,i.bytes))=some (some (.map none),1,8):=by kernel_rfl
theorem infoWs:(Tryd.prog.info? 73).map (fun i=>(i.zero,i.size,i.bytes))=some (some (.slice none 0 0),1,24):=by kernel_rfl
def vaL (n:Nat) (f:Nat->Value):List Value:=(List.range n).map f
theorem vaL_get (n:Nat) (f:Nat->Value) (j:Nat) (h:j<n):(vaL n f)[j]?=some (f j):=by simp[vaL,h]
theorem vaL_len (n:Nat) (f:Nat->Value):(vaL n f).length=n:=by simp[vaL]
theorem vaL_set (n:Nat) (f g:Nat->Value) (j:Nat) (u:Value) (h:∀ i,i<n->g i=if i=j then u else f i):(vaL n f).set j u=vaL n g:=by
 apply List.ext_getElem?
 intro i
 rw[List.getElem?_set,vaL_len]
 by_cases hi:i<n
 · rw[vaL_get n g i hi,h i hi]
   by_cases e:j=i
   · subst e;simp[hi]
   · rw[if_neg e,if_neg (fun x=>e x.symm),vaL_get n f i hi]
 · rw[List.getElem?_eq_none (show(vaL n g).length<=i by rw[vaL_len];omega)]
   split
   · rw[if_neg (by omega)]
   · rw[List.getElem?_eq_none (by rw[vaL_len];omega)]
structure Bu (B g n N K:Nat) (gs:Nat->Nat) (k:Nat) (V:Nat->Nat->Value) (F:Nat->Nat->Int->Int) (W:World):Prop where
 outer:W.ownsRow B 73 1 (.slice (some ⟨g,0,none⟩) n n) n (outT n n gs k)
 rows:∀ i,i<k->W.ownsRow B 60 1 (.slice (some ⟨gs i,0,none⟩) n n) n (vaL n (V i))
 inj:∀ i j,i<k->j<k->gs i=gs j->i=j
 vals:∀ i j,i<k->j<n->WkV W W.heap.size (V i j) N K (F i j)
variable {B g n N K k:Nat} {gs:Nat->Nat} {V:Nat->Nat->Value} {F:Nat->Nat->Int->Int} {W W' W1:World}
theorem Bu.any (h:Bu B g n N K gs k V F W) (hb:Below W.heap.size W W'):Bu B g n N K gs k V F W':=
 ⟨own_any h.outer (grown_below hb none),fun i hi=>own_any (h.rows i hi) (grown_below hb none),h.inj,fun i j hi hj=>((h.vals i j hi hj).on hb).mono hb.size (Nat.le_refl _) (Nat.le_refl _)⟩
theorem row_cells {w:World} {B e s n g c:Nat} {xs:List Value} (h:w.ownsRow B e s (.slice (some ⟨g,0,none⟩) n c) n xs):∃ cs,w.heap[g]?=some (.cells cs e (0,0)):=by
 rcases h.2 with⟨h1,-⟩|⟨q,cap,cur,h1,h2,h3,-⟩
 · cases h1
 · injection h1 with e1 e2 e3
   obtain rfl:g=q:=by injection e1 with e1;injection e1
   exact⟨cur,h3⟩
theorem Bu.cellO (h:Bu B g n N K gs k V F W) (i:Nat) (hi:i<k) (hn:i<n):W.cell? ⟨g,i,none⟩=some (.slice (some ⟨gs i,0,none⟩) n n):=by
 rw[h.outer.cellAt i (by omega),outT_get n n gs k i hn,if_pos hi]
theorem Bu.cellR (h:Bu B g n N K gs k V F W) (i j:Nat) (hi:i<k) (hj:j<n):W.cell? ⟨gs i,j,none⟩=some (V i j):=by
 rw[(h.rows i hi).cellAt j (by omega),vaL_get _ _ _ hj]
theorem Bu.lt (h:Bu B g n N K gs k V F W):(B<=g/\g<W.heap.size)/\∀ i,i<k->B<=gs i/\gs i<W.heap.size:=⟨h.outer.lt g rfl,fun i hi=>(h.rows i hi).lt (gs i) rfl⟩
theorem Bu.kept {q:Nat} (h:Bu B g n N K gs k V F W) (hg:W.grownBy W' (some q)) (h1:g≠q) (h2:∀ i,i<k->gs i≠q) {cs:Array Value} {e:TypeId} {z:Nat×Nat} (hc:W.heap[q]?=some (.cells cs e z)):Bu B g n N K gs k V F W':=
 ⟨h.outer.kept hg (Or.inr fun e=>h1 (Option.some.inj e)),fun i hi=>(h.rows i hi).kept hg (Or.inr fun e=>h2 i hi (Option.some.inj e)),h.inj,fun i j hi hj=>((h.vals i j hi hj).set hg hc).mono hg.size (Nat.le_refl _) (Nat.le_refl _)⟩
theorem Bu.set {V' : Nat → Nat → Value} {F' : Nat → Nat → Int → Int} (h : Bu B g n N K gs k V F W) (i j : Nat) (u : Value) (hi : i < k) (hV : ∀ a b, a < k → b < n → V' a b = if a = i ∧ b = j then u else V a b) (hF : ∀ a b, a < k → b < n → ¬ (a = i ∧ b = j) → F' a b = F a b) (hu : j < n → WkV W W.heap.size u N K (F' i j)) :
    Bu B g n N K gs k V' F' (W.setCell ⟨gs i,j,none⟩ u)/\W.grownBy (W.setCell ⟨gs i,j,none⟩ u) (some (gs i)):=by
 have hst:=(h.rows i hi).stored j u
 obtain⟨cs,hcs⟩:=row_cells (h.rows i hi)
 refine⟨⟨h.outer.kept hst.2 (own_ne h.outer (h.rows i hi) (by decide)),fun a ha=>?_,h.inj,fun a b ha hb=>?_⟩,hst.2⟩
 · by_cases e:a=i
   · subst e
     rw[vaL_set n (V a) (V' a) j u (fun b hb=>by rw[hV a b ha hb];by_cases e:b=j<;>simp[e])]at hst
     exact hst.1
   · have hr:=(h.rows a ha).kept hst.2 (Or.inr (fun q=>e (h.inj a i ha hi (Option.some.inj q))))
     have e2:vaL n (V' a)=vaL n (V a):=List.map_congr_left fun b hb=>by rw[hV a b ha (List.mem_range.1 hb),if_neg (fun q=>e q.1)]
     rw[e2]
     exact hr
 · by_cases e:a=i/\b=j
   · rw[hV a b ha hb,if_pos e,e.1,e.2]
     exact((hu (by rw[<-e.2];exact hb)).set hst.2 hcs).mono hst.2.size (Nat.le_refl _) (Nat.le_refl _)
   · rw[hV a b ha hb,if_neg e,hF a b ha hb e]
     exact((h.vals a b ha hb).set hst.2 hcs).mono hst.2.size (Nat.le_refl _) (Nat.le_refl _)
theorem Bu.more {q : Nat} (h : Bu B g n N K gs k V F W) (hb : Below W.heap.size W W1) (hrow : W1.ownsRow B 60 1 (.slice (some ⟨q, 0, none⟩) n n) n (vaL n fun _ => .map none)) (hnew : W.heap.size ≤ q) :
    Bu B g n N K (fun i=>if i=k then q else gs i) (k+1) (fun i j=>if i=k then .map none else V i j) (fun i j=>if i=k then fun _=>0 else F i j) (W1.setCell ⟨g,k,none⟩ (.slice (some ⟨q,0,none⟩) n n))/\W1.grownBy (W1.setCell ⟨g,k,none⟩ (.slice (some ⟨q,0,none⟩) n n)) (some g):=by
 have h1:=h.any hb
 have hst:=h1.outer.stored k (.slice (some ⟨q,0,none⟩) n n)
 obtain⟨cs,hcs⟩:=row_cells h1.outer
 have hlt:∀ i,i<k->gs i<q:=fun i hi=>by have:=((h.rows i hi).lt (gs i) rfl).2;omega
 refine⟨⟨?_,fun i hi=>?_,fun i j hi hj e=>?_,fun i j hi hj=>?_⟩,hst.2⟩
 · have e : (outT n n gs k).set k (.slice (some ⟨q, 0, none⟩) n n) = outT n n (fun i => if i = k then q else gs i) (k + 1) := by
     apply List.ext_getElem?
     intro j
     by_cases hj:j<n
     · rw[outT_get _ _ _ _ _ hj,List.getElem?_set,outT_len]
       by_cases e:k=j
       · subst e;simp[hj]
       · rw[if_neg e,outT_get _ _ _ _ _ hj]
         by_cases h2:j<k
         · rw[if_pos h2,if_pos (by omega),if_neg (by omega)]
         · rw[if_neg h2,if_neg (by omega)]
     · rw[List.getElem?_eq_none (by simp[outT_len];omega),List.getElem?_eq_none (by simp[outT_len];omega)]
   rw[<-e]
   exact hst.1
 · by_cases e:i=k
   · subst e
     simp only[if_true]
     exact hrow.kept hst.2 (own_ne hrow h1.outer (by decide))
   · simp only[if_neg e]
     have hr:=h1.rows i (by omega)
     exact hr.kept hst.2 (own_ne hr h1.outer (by decide))
 · have e:(if i=k then q else gs i)=(if j=k then q else gs j):=e
   by_cases e1:i=k
   · by_cases e2:j=k
     · omega
     · rw[if_pos e1,if_neg e2]at e
       have:=hlt j (by omega)
       omega
   · by_cases e2:j=k
     · rw[if_neg e1,if_pos e2]at e
       have:=hlt i (by omega)
       omega
     · rw[if_neg e1,if_neg e2]at e
       exact h.inj i j (by omega) (by omega) e
 · by_cases e:i=k
   · simp only[if_pos e]
     exact Or.inl ⟨rfl,fun _=>rfl⟩
   · simp only[if_neg e]
     exact((h1.vals i j (by omega) hj).set hst.2 hcs).mono hst.2.size (Nat.le_refl _) (Nat.le_refl _)
theorem Bu.congr {V':Nat->Nat->Value} {F':Nat->Nat->Int->Int} {gs':Nat->Nat} (h:Bu B g n N K gs k V F W) (hV:∀ a b,a<k->b<n->V' a b=V a b) (hF:∀ a b,a<k->b<n->F' a b=F a b) (hg:∀ a,a<k->gs' a=gs a):Bu B g n N K gs' k V' F' W:=by
 refine⟨?_,fun i hi=>?_,fun i j hi hj e=>h.inj i j hi hj (by rw[<-hg i hi,<-hg j hj];exact e),fun i j hi hj=>by rw[hV i j hi hj,hF i j hi hj];exact h.vals i j hi hj⟩
 · have e : outT n n gs' k = outT n n gs k := List.map_congr_left fun b hb => by
     by_cases hb2:b<k
     · rw[if_pos hb2,if_pos hb2,hg b hb2]
     · rw[if_neg hb2,if_neg hb2]
   rw[e]
   exact h.outer
 · have e2:vaL n (V' i)=vaL n (V i):=List.map_congr_left fun b hb=>hV i b hi (List.mem_range.1 hb)
   rw[hg i hi,e2]
   exact h.rows i hi
theorem Bu.mono {N' K':Nat} (h:Bu B g n N K gs k V F W) (hN:N<=N') (hK:K<=K'):Bu B g n N' K' gs k V F W:=⟨h.outer,h.rows,h.inj,fun i j hi hj=>(h.vals i j hi hj).mono (Nat.le_refl _) hN hK⟩
theorem made_nilM (n:Nat):(madeCells (Value.map none).cells (n*1)).toList=vaL n fun _=>.map none:=by
 have e:(Value.map none).cells=#[Value.map none]:=rfl
 rw[e,toList_madeCells_one,Nat.mul_one]
 apply List.ext_getElem?
 intro j
 by_cases hj:j<n
 · rw[vaL_get _ _ _ hj];simp[hj]
 · rw[List.getElem?_eq_none (by simp;omega),List.getElem?_eq_none (by rw[vaL_len];omega)]
end Go.Proofs.YtiliihlkpknhdaaDoor.Poly
/- Burau's tables: the walk of closure.unit. -/
namespace Go.Proofs.YtiliihlkpknhdaaDoor.Poly
open Go.RowKit Go.Maps
set_option maxHeartbeats 8000000
set_option maxRecDepth 100000
theorem unit_any (n : Nat) (l : List Int) (w : World) (hn : n ≤ 6) :
    Calls Tryd.prog 15 #[.int .i64 (n:Nat)] w fun e w'=>∃ (g:Nat) (gs:Nat->Nat) (V:Nat->Nat->Value),e=.returned (.slice (some ⟨g,0,none⟩) n n)/\Bu w.heap.size g n 1 0 gs n V (buT l 0) w'/\Below w.heap.size w w':=by
 obtain⟨i0,hi,hz0,hz1,hz2⟩:=info_parts infoWs
 obtain⟨i1,hk,hx0,hx1,hx2⟩:=info_parts infoW
 have hmk:=makeN
 go_enter Tryd.func15,Tryd.ntmps15
 go_wp2_with (first|(at_make;refine wpList_make_full _ rfl _ _ 49 rfl w.heap.size 73 i0 (.slice none 0 0) 1 Tryd.underlying49 hi hz0 hz1 .i64 .i64 _ _ n rfl rfl rfl rfl (by rw[hz2];omega) (by unfold maxLen;omega) (by simp) ?_;intro w1 hrow1 hg1;refine Hid.out ?_))
 refine Lib.hid ?_
 rw[made_nilsT n n]at hrow1
 obtain⟨g,hg⟩:∃ g,w.heap.size=g:=⟨_,rfl⟩
 have HG:=hid_mkP hg
 have HB1:Hid (Below w.heap.size w w1):=(Below.refl _ _).grown hg1 (Nat.le_refl _) (fun q hq=>by cases hq)
 have HT1:Hid (Bu w.heap.size g n 1 0 (fun _=>0) 0 (fun _ _=>.map none) (fun _ _ _=>0) w1):=⟨(by rw[<-hg];exact hrow1:w1.ownsRow w.heap.size 73 1 (.slice (some ⟨g,0,none⟩) n n) n (outT n n (fun _=>0) 0)),fun i hi=>absurd hi (Nat.not_lt_zero _),fun i j hi=>absurd hi (Nat.not_lt_zero _),fun i j hi=>absurd hi (Nat.not_lt_zero _)⟩
 rw[hg]
 clear hrow1 hg1 hg
 go_wp2
 go_loopw [9] (fun v9 wr=>∃ (k:Nat) (gs:Nat->Nat) (V:Nat->Nat->Value),k<=n/\v9=.int .i64 (k:Nat)/\Hid (Bu w.heap.size g n 1 0 gs k V (buT l 0) wr)/\Hid (Below w.heap.size w wr)) (fun v9 _=>n-(intOf v9).toNat)
 case atStart=>exact⟨0,fun _=>0,fun _ _=>.map none,Nat.zero_le _,rfl,HT1.out.congr (fun a b ha=>absurd ha (Nat.not_lt_zero _)) (fun a b ha=>absurd ha (Nat.not_lt_zero _)) (fun a ha=>absurd ha (Nat.not_lt_zero _)),HB1.out⟩
 case round=>
  clear HT1 HB1
  rename World=>W1
  obtain⟨k,gs,V,hkn,rfl,hT,hB⟩:=hrel
  by_cases hkl:k<n
  · have hkI:(k:Int)<(n:Int):=by omega
    go_wp2_with (first|(at_make;refine wpList_make_full _ rfl _ _ 73 rfl W1.heap.size 60 i1 (.map none) 1 Tryd.underlying73 hk hx0 hx1 .i64 .i64 _ _ n rfl rfl rfl rfl (by rw[hx2];omega) (by unfold maxLen;omega) (by simp) ?_;intro w2 hrow2 hg2;refine Hid.out ?_))
    refine Lib.hid ?_
    rw[made_nilM n]at hrow2
    obtain⟨q,hq⟩:∃ q,W1.heap.size=q:=⟨_,rfl⟩
    have hb2:Below W1.heap.size W1 w2:=(Below.refl _ _).grown hg2 (Nat.le_refl _) (fun q hq=>by cases hq)
    obtain⟨hm1,hm2⟩:=hT.out.more hb2 (own_low (by rw[hq]at hrow2;exact hrow2) (by have:=hB.out.size;omega)) (by omega)
    have e0:w2.cell? ⟨g,k,none⟩=some (.slice none 0 0):=by
     rw[(hT.out.any hb2).outer.cellAt k (by omega),outT_get _ _ _ _ _ hkl,if_neg (Nat.lt_irrefl _)]
    have f0:=(hT.out.any hb2).outer.frozenAt k
    have lg:=(hT.out.any hb2).lt.1.2
    have HX:=hid_mkP hm1
    have HBX:Hid (Below w.heap.size w (w2.setCell ⟨g,k,none⟩ (.slice (some ⟨q,0,none⟩) n n))):=((hB.out.trans (hb2.mono hB.out.size)).grown hm2 (Nat.le_trans hB.out.size hb2.size) (fun z hz=>by have:=Option.some.inj hz;have:=hT.out.lt.1.1;omega))
    rw[hq]
    clear hrow2 hg2 hb2 hm1 hm2 hq hT hB
    obtain⟨gs2,hgs2⟩:∃ z:Nat->Nat,z=fun i=>if i=k then q else gs i:=⟨_,rfl⟩
    obtain⟨V2,hV2⟩:∃ z:Nat->Nat->Value,z=fun i j=>if i=k then .map none else V i j:=⟨_,rfl⟩
    obtain⟨F2,hF2⟩:∃ z:Nat->Nat->Int->Int,z=fun i j=>if i=k then fun _=>0 else buT l 0 i j:=⟨_,rfl⟩
    have HF2:Hid (F2=fun i j=>if i=k then fun _=>0 else buT l 0 i j):=hF2
    have HVK:Hid (V2 k k=.map none):=(by rw[hV2];exact if_pos rfl:V2 k k=.map none)
    rw[<-hgs2,<-hV2,<-hF2]at HX
    have HQK:Hid (gs2 k=q):=(by rw[hgs2];exact if_pos rfl:gs2 k=q)
    clear hgs2 hV2 hF2
    go_upto_region 6 with(fail)
    obtain⟨X,hX⟩:∃ X,X=w2.setCell ⟨g,k,none⟩ (.slice (some ⟨q,0,none⟩) n n):=⟨_,rfl⟩
    rw[<-hX]at HX HBX ⊢
    have o0:=HX.out.cellO k (Nat.lt_succ_self k) hkl
    have r0:=HX.out.cellR k k (Nat.lt_succ_self k) hkl
    rw[HVK.out]at r0
    have oM0:(X.alloc (.map #[] 0)).ownsMap Tryd.prog 3 (plainElem Tryd.prog 3) X.heap.size 0 (.map []:DataW Unit):=World.ownsMap_made _ _ _ _
    obtain⟨w3,r1,oM1,g1⟩:=lit_put (k:=0) (c:=1) oM0 (by omega) (by omega) (by omega)
    have hb3:Below X.heap.size X w3:=((Below.refl _ _).alloc (Nat.le_refl _) _).grown g1 (by simp) (fun z hz=>by have:=Option.some.inj hz;omega)
    have hX3:=HX.out.any hb3
    have hst := hX3.set (V' := fun a b => if a = k ∧ b = k then .map (some X.heap.size) else V2 a b) (F' := buT l 0) k k (.map (some X.heap.size)) (Nat.lt_succ_self k) (fun a b _ _ => rfl) (fun a b ha hb hne => by
     rw[HF2.out]
     by_cases e:a=k
     · funext y
       show(if a=b/\y=0 then(1:Int) else 0)=(if a=k then fun _=>0 else buT l 0 a b) y
       rw[if_pos e,if_neg (fun x=>hne ⟨e,by omega⟩)]
     · show buT l 0 a b=if a=k then fun _=>0 else buT l 0 a b
       rw [if_neg e]) (fun _ => Or.inr ⟨X.heap.size, _, rfl, by have := oM1.lt; omega, oM1, keysIn_put (fun x hx => by cases hx) (by decide) (by decide) _, fun y => by
     rw[coefOf_put ⟨_,rfl⟩]
     show _=if k=k/\y=0 then(1:Int) else 0
     by_cases e:(0:Int)=y
     · rw[if_pos e,if_pos ⟨rfl,e.symm⟩]
     · rw[if_neg e,if_neg (fun x=>e x.2.symm)];exact coefOf_none rfl⟩)
    have HST:=hid_mkP hst.1
    have HBS:Hid (Below w.heap.size w (w3.setCell ⟨gs2 k,k,none⟩ (.map (some X.heap.size)))):=(HBX.out.trans (hb3.mono HBX.out.size)).grown hst.2 (Nat.le_trans HBX.out.size hb3.size) (fun z hz=>by have h1:=Option.some.inj hz;have:=(HX.out.lt.2 k (Nat.lt_succ_self k)).1;omega)
    have lg2:=HX.out.lt.1.2
    have lq:=(HX.out.lt.2 k (Nat.lt_succ_self k)).2
    have r3:=hX3.cellR k k (Nat.lt_succ_self k) hkl
    rw[HVK.out]at r3
    have f3:=(hX3.rows k (Nat.lt_succ_self k)).frozenAt k
    have lq3:=(hX3.lt.2 k (Nat.lt_succ_self k)).2
    rw[HQK.out]at o0 r0 HST HBS lq r3 f3 lq3
    clear hX oM0 oM1 g1 hb3 hX3 hst e0 f0 lg HX HBX
    go_wp2
    go_roundw
    case rel=>exact⟨k+1,gs2,_,by omega,by go_num,HST.out,HBS.out⟩
    case measure=>simp only[intOf];omega
  · obtain rfl:n=k:=by omega
    have HFN:=hid_mkP hT.out
    have HBB:=hid_mkP hB.out
    go_wp2
    go_ret
    exact⟨g,gs,V,rfl,HFN.out,HBB.out⟩
end Go.Proofs.YtiliihlkpknhdaaDoor.Poly
/- Tables of polynomials in form. -/
namespace Go.Proofs.YtiliihlkpknhdaaDoor.Poly
open Go.RowKit Go.Maps
def PV (W:World) (v:Value) (f:Int->Int):Prop:=∃ l,PolyC W W.heap.size v l/\Canon l f
theorem canon_zero:Canon ([]:List (Int×Int)) (fun _=>0):=⟨List.Pairwise.nil,fun x c=>by simp only[List.not_mem_nil,false_iff];rintro⟨rfl,h⟩;exact h rfl⟩
theorem pv_nil (W:World):PV W (.slice none 0 0) (fun _=>0):=⟨[],⟨Or.inl ⟨rfl,rfl⟩,none,0,0,rfl,Nat.le_refl _,Nat.zero_le _⟩,canon_zero⟩
theorem PV.up {W W':World} {v:Value} {f:Int->Int} (h:PV W v f) (hb:Below W.heap.size W W'):PV W' v f:=by
 obtain⟨l,h1,h2⟩:=h
 exact⟨l,h1.up hb,h2⟩
theorem PV.set {W W':World} {v:Value} {f:Int->Int} {q:Nat} (h:PV W v f) (hg:W.grownBy W' (some q)) (hs:∀ o v,W.cell? ⟨q,o,none⟩=some v->∃ a m c,v=.slice a m c):PV W' v f:=by
 obtain⟨l,⟨h1,h3⟩,h2⟩:=h
 refine⟨l,⟨?_,h3⟩,h2⟩
 rcases h1 with h1|h1|⟨b,off,cap,e,hlt,hT⟩
 · exact Or.inl h1
 · exact Or.inr (Or.inl h1)
 · refine Or.inr (Or.inr ⟨b,off,cap,e,Nat.lt_of_lt_of_le hlt hg.size,fun i hi=>?_⟩)
   have hne:some b≠some q:=fun e=>by
    obtain⟨a,m,c,e2⟩:=hs _ _ (by rw[<-Option.some.inj e];exact(hT i hi).1)
    cases e2
   have hbl:=hg.block b hlt hne
   have hcell:∀ o,W'.cell? ⟨b,o,none⟩=W.cell? ⟨b,o,none⟩:=fun o=>by simp only[World.cell?,hbl]
   exact⟨(hcell _).trans (hT i hi).1,(hcell _).trans (hT i hi).2⟩
theorem row_all {w:World} {B e n g:Nat} {xs:List Value} (h:w.ownsRow B e 1 (.slice (some ⟨g,0,none⟩) n n) n xs) (o:Nat) (v:Value) (hv:w.cell? ⟨g,o,none⟩=some v):o<n/\xs[o]?=some v:=by
 have hlt:o<n:=by
  rcases h.2 with⟨h1,-⟩|⟨q,cap,cur,h1,h2,h3,h4⟩
  · cases h1
  · injection h1 with e1 e2 e3
    obtain rfl:g=q:=by injection e1 with e1;injection e1
    subst e3
    by_cases hh:o<n
    · exact hh
    · exfalso
      have hsz:cur.size<=o:=by have:=h4.2.1;omega
      simp[World.cell?,h3,Array.getElem?_eq_none hsz]at hv
 exact⟨hlt,by rw[<-h.cellAt o (by omega)];exact hv⟩
structure Td (B g n:Nat) (gs:Nat->Nat) (k:Nat) (V:Nat->Nat->Value) (F:Nat->Nat->Int->Int) (W:World):Prop where
 outer:W.ownsRow B 37 1 (.slice (some ⟨g,0,none⟩) n n) n (outT n n gs k)
 rows:∀ i,i<k->W.ownsRow B 34 1 (.slice (some ⟨gs i,0,none⟩) n n) n (vaL n (V i))
 inj:∀ i j,i<k->j<k->gs i=gs j->i=j
 vals:∀ i j,i<k->j<n->PV W (V i j) (F i j)
variable {B g n k:Nat} {gs:Nat->Nat} {V:Nat->Nat->Value} {F:Nat->Nat->Int->Int} {W W' W1:World}
theorem Td.any (h:Td B g n gs k V F W) (hb:Below W.heap.size W W'):Td B g n gs k V F W':=
 ⟨own_any h.outer (grown_below hb none),fun i hi=>own_any (h.rows i hi) (grown_below hb none),h.inj,fun i j hi hj=>(h.vals i j hi hj).up hb⟩
theorem Td.cellO (h:Td B g n gs k V F W) (i:Nat) (hi:i<k) (hn:i<n):W.cell? ⟨g,i,none⟩=some (.slice (some ⟨gs i,0,none⟩) n n):=by
 rw[h.outer.cellAt i (by omega),outT_get n n gs k i hn,if_pos hi]
theorem Td.cellR (h:Td B g n gs k V F W) (i j:Nat) (hi:i<k) (hj:j<n):W.cell? ⟨gs i,j,none⟩=some (V i j):=by
 rw[(h.rows i hi).cellAt j (by omega),vaL_get _ _ _ hj]
theorem Td.lt (h:Td B g n gs k V F W):(B<=g/\g<W.heap.size)/\∀ i,i<k->B<=gs i/\gs i<W.heap.size:=⟨h.outer.lt g rfl,fun i hi=>(h.rows i hi).lt (gs i) rfl⟩
theorem Td.cellS (h:Td B g n gs k V F W) (i:Nat) (hi:i<k):∀ o v,W.cell? ⟨gs i,o,none⟩=some v->∃ a m c,v=.slice a m c:=fun o v hv=>by
 obtain⟨j,hj,rfl⟩:∃ j,j<n/\v=V i j:=by
  obtain⟨h1,h2⟩:=row_all (h.rows i hi) o v hv
  rw[vaL_get n (V i) o h1]at h2
  exact⟨o,h1,(Option.some.inj h2).symm⟩
 obtain⟨l,hp,-⟩:=h.vals i j hi hj
 obtain⟨-,a,m,c,e,-⟩:=hp
 exact⟨a,m,c,e⟩
theorem Td.cellG (h:Td B g n gs k V F W):∀ o v,W.cell? ⟨g,o,none⟩=some v->∃ a m c,v=.slice a m c:=fun o v hv=>by
 obtain⟨h1,h2⟩:=row_all h.outer o v hv
 rw[outT_get n n gs k o h1]at h2
 have h3:=Option.some.inj h2
 by_cases e:o<k
 · rw[if_pos e]at h3;exact⟨_,_,_,h3.symm⟩
 · rw[if_neg e]at h3;exact⟨_,_,_,h3.symm⟩
theorem Td.set {V' : Nat → Nat → Value} {F' : Nat → Nat → Int → Int} (h : Td B g n gs k V F W) (i j : Nat) (u : Value) (hi : i < k) (hV : ∀ a b, a < k → b < n → V' a b = if a = i ∧ b = j then u else V a b) (hF : ∀ a b, a < k → b < n → ¬ (a = i ∧ b = j) → F' a b = F a b) (hu : j < n → PV W u (F' i j)) :
    Td B g n gs k V' F' (W.setCell ⟨gs i,j,none⟩ u)/\W.grownBy (W.setCell ⟨gs i,j,none⟩ u) (some (gs i)):=by
 have hst:=(h.rows i hi).stored j u
 have hcs:∀ o v,W.cell? ⟨gs i,o,none⟩=some v->∃ a m c,v=.slice a m c:=h.cellS i hi
 refine⟨⟨h.outer.kept hst.2 (own_ne h.outer (h.rows i hi) (by decide)),fun a ha=>?_,h.inj,fun a b ha hb=>?_⟩,hst.2⟩
 · by_cases e:a=i
   · subst e
     rw[vaL_set n (V a) (V' a) j u (fun b hb=>by rw[hV a b ha hb];by_cases e:b=j<;>simp[e])]at hst
     exact hst.1
   · have hr:=(h.rows a ha).kept hst.2 (Or.inr (fun q=>e (h.inj a i ha hi (Option.some.inj q))))
     have e2:vaL n (V' a)=vaL n (V a):=List.map_congr_left fun b hb=>by rw[hV a b ha (List.mem_range.1 hb),if_neg (fun q=>e q.1)]
     rw[e2]
     exact hr
 · by_cases e:a=i/\b=j
   · rw[hV a b ha hb,if_pos e,e.1,e.2]
     exact(hu (by rw[<-e.2];exact hb)).set hst.2 hcs
   · rw[hV a b ha hb,if_neg e,hF a b ha hb e]
     exact(h.vals a b ha hb).set hst.2 hcs
theorem Td.more {q : Nat} (h : Td B g n gs k V F W) (hb : Below W.heap.size W W1) (hrow : W1.ownsRow B 34 1 (.slice (some ⟨q, 0, none⟩) n n) n (vaL n fun _ => .slice none 0 0)) (hnew : W.heap.size ≤ q) :
    Td B g n (fun i=>if i=k then q else gs i) (k+1) (fun i j=>if i=k then .slice none 0 0 else V i j) (fun i j=>if i=k then fun _=>0 else F i j) (W1.setCell ⟨g,k,none⟩ (.slice (some ⟨q,0,none⟩) n n))/\W1.grownBy (W1.setCell ⟨g,k,none⟩ (.slice (some ⟨q,0,none⟩) n n)) (some g):=by
 have h1:=h.any hb
 have hst:=h1.outer.stored k (.slice (some ⟨q,0,none⟩) n n)
 have hcs:∀ o v,W1.cell? ⟨g,o,none⟩=some v->∃ a m c,v=.slice a m c:=h1.cellG
 have hlt:∀ i,i<k->gs i<q:=fun i hi=>by have:=((h.rows i hi).lt (gs i) rfl).2;omega
 refine⟨⟨?_,fun i hi=>?_,fun i j hi hj e=>?_,fun i j hi hj=>?_⟩,hst.2⟩
 · have e : (outT n n gs k).set k (.slice (some ⟨q, 0, none⟩) n n) = outT n n (fun i => if i = k then q else gs i) (k + 1) := by
     apply List.ext_getElem?
     intro j
     by_cases hj:j<n
     · rw[outT_get _ _ _ _ _ hj,List.getElem?_set,outT_len]
       by_cases e:k=j
       · subst e;simp[hj]
       · rw[if_neg e,outT_get _ _ _ _ _ hj]
         by_cases h2:j<k
         · rw[if_pos h2,if_pos (by omega),if_neg (by omega)]
         · rw[if_neg h2,if_neg (by omega)]
     · rw[List.getElem?_eq_none (by simp[outT_len];omega),List.getElem?_eq_none (by simp[outT_len];omega)]
   rw[<-e]
   exact hst.1
 · by_cases e:i=k
   · subst e
     simp only[if_true]
     exact hrow.kept hst.2 (own_ne hrow h1.outer (by decide))
   · simp only[if_neg e]
     have hr:=h1.rows i (by omega)
     exact hr.kept hst.2 (own_ne hr h1.outer (by decide))
 · have e:(if i=k then q else gs i)=(if j=k then q else gs j):=e
   by_cases e1:i=k
   · by_cases e2:j=k
     · omega
     · rw[if_pos e1,if_neg e2]at e
       have:=hlt j (by omega)
       omega
   · by_cases e2:j=k
     · rw[if_neg e1,if_pos e2]at e
       have:=hlt i (by omega)
       omega
     · rw[if_neg e1,if_neg e2]at e
       exact h.inj i j (by omega) (by omega) e
 · by_cases e:i=k
   · simp only[if_pos e]
     exact pv_nil _
   · simp only[if_neg e]
     exact(h1.vals i j (by omega) hj).set hst.2 hcs
theorem Td.congr {V':Nat->Nat->Value} {F':Nat->Nat->Int->Int} {gs':Nat->Nat} (h:Td B g n gs k V F W) (hV:∀ a b,a<k->b<n->V' a b=V a b) (hF:∀ a b,a<k->b<n->F' a b=F a b) (hg:∀ a,a<k->gs' a=gs a):Td B g n gs' k V' F' W:=by
 refine⟨?_,fun i hi=>?_,fun i j hi hj e=>h.inj i j hi hj (by rw[<-hg i hi,<-hg j hj];exact e),fun i j hi hj=>by rw[hV i j hi hj,hF i j hi hj];exact h.vals i j hi hj⟩
 · have e : outT n n gs' k = outT n n gs k := List.map_congr_left fun b hb => by
     by_cases hb2:b<k
     · rw[if_pos hb2,if_pos hb2,hg b hb2]
     · rw[if_neg hb2,if_neg hb2]
   rw[e]
   exact h.outer
 · have e2:vaL n (V' i)=vaL n (V i):=List.map_congr_left fun b hb=>hV i b hi (List.mem_range.1 hb)
   rw[hg i hi,e2]
   exact h.rows i hi
theorem made_nilS (n:Nat):(madeCells (Value.slice none 0 0).cells (n*1)).toList=vaL n fun _=>.slice none 0 0:=by
 have e:(Value.slice none 0 0).cells=#[Value.slice none 0 0]:=rfl
 rw[e,toList_madeCells_one,Nat.mul_one]
 apply List.ext_getElem?
 intro j
 by_cases hj:j<n
 · rw[vaL_get _ _ _ hj];simp[hj]
 · rw[List.getElem?_eq_none (by simp;omega),List.getElem?_eq_none (by rw[vaL_len];omega)]
theorem infoTs:(Tryd.prog.info? 34).map (fun i=>(i.zero,i.size,i.bytes))=some (some (.slice none 0 0),1,24):=by kernel_rfl
theorem infoTss:(Tryd.prog.info? 37).map (fun i=>(i.zero,i.size,i.bytes))=some (some (.slice none 0 0),1,24):=by kernel_rfl
end Go.Proofs.YtiliihlkpknhdaaDoor.Poly
