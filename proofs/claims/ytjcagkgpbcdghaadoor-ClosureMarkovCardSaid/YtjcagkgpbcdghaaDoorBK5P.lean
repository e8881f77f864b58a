/- Several texts of the proof, one behind the other. -/
import Derived.Test.YtjcagkgpbcdghaaDoorBKm
import Derived.Deep.Heap
import Derived.Laws.ResultCell
import Derived.Deep.Cut
import Derived.Deep.RegionHeldLaw
import Derived.Test.YtjcagkgpbcdghaaDoorBaseP
/- The walks of bracket.untied and of ties.tied. -/
namespace Go.Proofs.YtjcagkgpbcdghaaDoor.Poly
open Go.RowKit Go.Maps
set_option maxHeartbeats 4000000
set_option maxRecDepth 100000
def TiAt (W:World) (g:Nat) (T:List Nat):Prop:=W.heap[g]?=some (.cells (tiA T) 78 (0,0))
theorem TiAt.cell {W:World} {g x:Nat} {T:List Nat} (h:TiAt W g T) (hT:GoodK T) (hx:x<26):W.cell? ⟨g,x,none⟩=some (.int .i64 (T.getD x 0:Nat)):=by
 unfold World.cell?;rw[h];exact Kk2 hT hx
theorem TiAt.frozen {W:World} {g x:Nat} {T:List Nat} (h:TiAt W g T):W.frozen? ⟨g,x,none⟩=false:=by
 unfold World.frozen?;rw[h];simp
theorem TiAt.set {W:World} {g x a:Nat} {T:List Nat} (h:TiAt W g T):TiAt (W.setCell ⟨g,x,none⟩ (.int .i64 (a:Nat))) g (T.set x a):=by
 unfold TiAt at h ⊢
 simp only[World.setCell,Array.getElem?_modify,h,if_true,Option.map_some]
 rw[<-Kf1];rfl
theorem TiAt.other {W:World} {g g' x:Nat} {v:Value} {T:List Nat} (h:TiAt W g T) (hne:g≠g'):TiAt (W.setCell ⟨g',x,none⟩ v) g T:=by
 unfold TiAt at h ⊢
 simp only[World.setCell,Array.getElem?_modify]
 rw[if_neg (Ne.symm hne)];exact h
theorem TiAt.row {W:World} {g:Nat} {T U:List Nat} (h:TiAt W g T):TiAt (W.setRow g (tiA U)) g U:=by
 unfold TiAt at h ⊢
 simp only[World.setRow,Array.getElem?_modify,h,if_true,Option.map_some]
theorem TiAt.on {W W':World} {g B:Nat} {T:List Nat} (h:TiAt W g T) (hb:Below B W W') (hlt:g<B):TiAt W' g T:=(hb.block g hlt).trans h
theorem TiAt.lt {W:World} {g:Nat} {T:List Nat} (h:TiAt W g T):g<W.heap.size:=(Array.getElem?_eq_some_iff.1 h).1
theorem Jx7:(Tryd.prog.info? 78).map (·.size)=some 26:=by kernel_rfl
theorem QV0 {T:List Nat} (h:GoodK T):(Tryd.prog.info? 78).map (·.size)=some (tiA T).size:=by rw[QZ3 h];exact Jx7
def zeK:List Nat:=List.replicate 26 0
theorem Qf4:GoodK zeK:=by
 refine⟨by simp[zeK],fun v=>?_⟩
 unfold zeK
 rw[List.getD_eq_getElem?_getD,List.getElem?_replicate]
 split<;>simp
theorem QJ1 {B g:Nat} {w W:World} {cs:Array Value} (h:Below B w W) (hg:B<=g):Below B w (W.setRow g cs):=
 ⟨h.os, h.tape, h.output, by simp [World.setRow]; exact h.size, fun i hi => by
  rw[<-h.block i hi]
  simp only[World.setRow,Array.getElem?_modify]
  rw[if_neg (by omega)]⟩
theorem QU9 {B g x:Nat} {w W:World} {v:Value} (h:Below B w W) (hg:B<=g):Below B w (W.setCell ⟨g,x,none⟩ v):=
 ⟨h.os, h.tape, h.output, by simp [World.setCell]; exact h.size, fun i hi => by
  rw[<-h.block i hi]
  simp only[World.setCell,Array.getElem?_modify]
  rw[if_neg (by omega)]⟩
theorem Qv9 (T : List Nat) (x y : Nat) (w : World) (hT : GoodK T) (hx : x < 26) (hy : y < 26) :
    Calls Tryd.prog 70 #[tiV T,.int .i64 (x:Nat),.int .i64 (y:Nat)] w fun e w'=>e=.returned (.tuple #[tiV (Qu8 T x y),.int .i64 (XF3 T x y:Nat)])/\Below w.heap.size w w':=by
 obtain⟨Z,hZ⟩:∃ Z,Z=(w.alloc (.cells (tiA T) 78)).alloc (.cells #[Value.int .i64 0,Value.int .i64 0,Value.int .i64 0,Value.int .i64 0,Value.int .i64 0,Value.int .i64 0,Value.int .i64 0,Value.int .i64 0,Value.int .i64 0,Value.int .i64 0,Value.int .i64 0,Value.int .i64 0,Value.int .i64 0,Value.int .i64 0,Value.int .i64 0,Value.int .i64 0,Value.int .i64 0,Value.int .i64 0,Value.int .i64 0,Value.int .i64 0,Value.int .i64 0,Value.int .i64 0,Value.int .i64 0,Value.int .i64 0,Value.int .i64 0,Value.int .i64 0] 78):=⟨_,rfl⟩
 have HZ:Hid (Z=(w.alloc (.cells (tiA T) 78)).alloc (.cells #[Value.int .i64 0,Value.int .i64 0,Value.int .i64 0,Value.int .i64 0,Value.int .i64 0,Value.int .i64 0,Value.int .i64 0,Value.int .i64 0,Value.int .i64 0,Value.int .i64 0,Value.int .i64 0,Value.int .i64 0,Value.int .i64 0,Value.int .i64 0,Value.int .i64 0,Value.int .i64 0,Value.int .i64 0,Value.int .i64 0,Value.int .i64 0,Value.int .i64 0,Value.int .i64 0,Value.int .i64 0,Value.int .i64 0,Value.int .i64 0,Value.int .i64 0,Value.int .i64 0] 78)):=hZ
 have B0:Hid (Below w.heap.size w Z):=(by rw[hZ];exact((Below.refl _ _).alloc (Nat.le_refl _) _).alloc (by simp) _:Below w.heap.size w Z)
 have T0 : Hid (TiAt Z w.heap.size T) := (by
  rw[hZ];unfold TiAt
  rw[heap_alloc_old _ _ (by simp),heap_alloc_new]:TiAt Z w.heap.size T)
 have T1 : Hid (TiAt Z (w.heap.size + 1) zeK) := (by
  rw[hZ];unfold TiAt
  have:=heap_alloc_new (w.alloc (.cells (tiA T) 78)) (.cells #[Value.int .i64 0,Value.int .i64 0,Value.int .i64 0,Value.int .i64 0,Value.int .i64 0,Value.int .i64 0,Value.int .i64 0,Value.int .i64 0,Value.int .i64 0,Value.int .i64 0,Value.int .i64 0,Value.int .i64 0,Value.int .i64 0,Value.int .i64 0,Value.int .i64 0,Value.int .i64 0,Value.int .i64 0,Value.int .i64 0,Value.int .i64 0,Value.int .i64 0,Value.int .i64 0,Value.int .i64 0,Value.int .i64 0,Value.int .i64 0,Value.int .i64 0,Value.int .i64 0] 78)
  rw[show(w.alloc (.cells (tiA T) 78)).heap.size=w.heap.size+1 by simp]at this
  exact this:TiAt Z (w.heap.size+1) zeK)
 clear hZ
 have HT:Hid (GoodK T):=hT
 have c0:Z.cell? ⟨w.heap.size,x,none⟩=some (.int .i64 (T.getD x 0:Nat)):=T0.out.cell hT hx
 have c1:Z.cell? ⟨w.heap.size,y,none⟩=some (.int .i64 (T.getD y 0:Nat)):=T0.out.cell hT hy
 have la:=hT.lt x
 have lb:=hT.lt y
 obtain⟨a,hA⟩:∃ a,T.getD x 0=a:=⟨_,rfl⟩
 obtain⟨b,hB⟩:∃ b,T.getD y 0=b:=⟨_,rfl⟩
 rw[hA]at c0 la
 rw[hB]at c1 lb
 have HA:Hid (T.getD x 0=a):=hA
 have HB:Hid (T.getD y 0=b):=hB
 clear hA hB hT
 unfold tiV
 have HP:Hid (Qu8 T x y=if a=y then(T.set x 0).set y 0 else(((T.set x 0).set y 0).set a b).set b a):=(by unfold Qu8;rw[HA.out,HB.out]:Qu8 T x y=if a=y then(T.set x 0).set y 0 else(((T.set x 0).set y 0).set a b).set b a)
 have HN:Hid (XF3 T x y=if a=y then 1 else 0):=(by unfold XF3;rw[HA.out]:XF3 T x y=if a=y then 1 else 0)
 generalize Qu8 T x y=R at HP ⊢
 generalize XF3 T x y=M at HN ⊢
 go_enter Tryd.func70,Tryd.ntmps70
 go_wp2
 rw[<-HZ.out]
 go_quiet (fail)
 obtain⟨V,hV⟩:∃ V,V=Z.drewN nq:=⟨_,rfl⟩
 rw[<-hV]
 have hbV:Below Z.heap.size Z V:=by rw[hV];exact below_drewN (Below.refl _ _) _
 have BV:Hid (Below w.heap.size w V):=B0.out.trans (hbV.mono B0.out.size)
 have V0:Hid (TiAt V w.heap.size T):=T0.out.on hbV T0.out.lt
 have V1:Hid (TiAt V (w.heap.size+1) zeK):=T1.out.on hbV T1.out.lt
 clear hV hbV c0 c1
 have d0:V.cell? ⟨w.heap.size,x,none⟩=some (.int .i64 (a:Nat)):=by rw[<-HA.out];exact V0.out.cell HT.out hx
 have f0:V.frozen? ⟨w.heap.size,x,none⟩=false:=V0.out.frozen
 have s1:TiAt (V.setCell ⟨w.heap.size,x,none⟩ (.int .i64 0)) w.heap.size (T.set x 0):=V0.out.set (a:=0)
 have g1:=HT.out.set (x:=x) (a:=0) (by omega)
 have d1:=s1.cell g1 hy
 have f1:=s1.frozen (x:=y)
 have S2:Hid (TiAt ((V.setCell ⟨w.heap.size,x,none⟩ (.int .i64 0)).setCell ⟨w.heap.size,y,none⟩ (.int .i64 0)) w.heap.size ((T.set x 0).set y 0)):=s1.set (a:=0)
 have U2:Hid (TiAt ((V.setCell ⟨w.heap.size,x,none⟩ (.int .i64 0)).setCell ⟨w.heap.size,y,none⟩ (.int .i64 0)) (w.heap.size+1) zeK):=(V1.out.other (by omega)).other (by omega)
 have B2:Hid (Below w.heap.size w ((V.setCell ⟨w.heap.size,x,none⟩ (.int .i64 0)).setCell ⟨w.heap.size,y,none⟩ (.int .i64 0))):=QU9 (QU9 BV.out (Nat.le_refl _)) (Nat.le_refl _)
 have G2:Hid (GoodK ((T.set x 0).set y 0)):=g1.set (by omega)
 obtain⟨X,hX⟩:∃ X,X=(V.setCell ⟨w.heap.size,x,none⟩ (.int .i64 0)).setCell ⟨w.heap.size,y,none⟩ (.int .i64 0):=⟨_,rfl⟩
 have HX:Hid (X=(V.setCell ⟨w.heap.size,x,none⟩ (.int .i64 0)).setCell ⟨w.heap.size,y,none⟩ (.int .i64 0)):=hX
 rw[<-hX]at S2 U2 B2
 clear hX s1 g1
 go_upto_region 3 with(fail)
 rw[<-HX.out]
 clear d0 f0 d1 f1
 by_cases hay:a=y
 · have HR:Hid (R=(T.set x 0).set y 0/\M=1):=⟨by rw[HP.out,if_pos hay],by rw[HN.out,if_pos hay]⟩
   have hd:((a:Int)==(y:Int))=true:=by rw[beq_iff_eq];omega
   clear hay
   go_wp2_with (first
    |(refine wpList_load_row rfl 78 _ rfl w.heap.size rfl 78 _ (0,0) _ S2.out Tryd.underlying78 rfl (QV0 G2.out) ?_)
    |(refine wpList_store_row rfl 78 _ _ rfl (w.heap.size+1) _ rfl rfl 78 _ U2.out (QV0 G2.out) (by rw[QZ3 G2.out,QZ3 Qf4]) (QC5 _) ?_))
   refine bodyPost_ret (v:=.tuple #[.agg (tiA R),.int .i64 (M:Nat)]) ?_ rfl ⟨rfl,QJ1 B2.out (by omega)⟩
   rw[results_cell_tmp rfl]
   have hl:=run_loadVar_row (P:=Tryd.prog) (X.setRow (w.heap.size+1) (tiA ((T.set x 0).set y 0))) (w.heap.size+1) 78 78 (tiA ((T.set x 0).set y 0)) (0,0) _ (U2.out.row (U:=(T.set x 0).set y 0)) Tryd.underlying78 rfl (QV0 G2.out)
   rw[HR.out.1,HR.out.2]
   simp[asAddr,Result.andThen,hl]
 · have HR:Hid (R=(((T.set x 0).set y 0).set a b).set b a/\M=0):=⟨by rw[HP.out,if_neg hay],by rw[HN.out,if_neg hay]⟩
   have hd:((a:Int)==(y:Int))=false:=by rw[beq_eq_false_iff_ne];omega
   clear hay
   have d0:X.cell? ⟨w.heap.size,a,none⟩=_:=S2.out.cell G2.out la
   have f0:X.frozen? ⟨w.heap.size,a,none⟩=false:=S2.out.frozen
   have s1:TiAt (X.setCell ⟨w.heap.size,a,none⟩ (.int .i64 (b:Nat))) w.heap.size (((T.set x 0).set y 0).set a b):=S2.out.set
   have g1:=G2.out.set (x:=a) (a:=b) lb
   have d1:=s1.cell g1 lb
   have f1:=s1.frozen (x:=b)
   have S3:Hid (TiAt ((X.setCell ⟨w.heap.size,a,none⟩ (.int .i64 (b:Nat))).setCell ⟨w.heap.size,b,none⟩ (.int .i64 (a:Nat))) w.heap.size ((((T.set x 0).set y 0).set a b).set b a)):=s1.set
   have U3:Hid (TiAt ((X.setCell ⟨w.heap.size,a,none⟩ (.int .i64 (b:Nat))).setCell ⟨w.heap.size,b,none⟩ (.int .i64 (a:Nat))) (w.heap.size+1) zeK):=(U2.out.other (by omega)).other (by omega)
   have B3:Hid (Below w.heap.size w ((X.setCell ⟨w.heap.size,a,none⟩ (.int .i64 (b:Nat))).setCell ⟨w.heap.size,b,none⟩ (.int .i64 (a:Nat)))):=QU9 (QU9 B2.out (Nat.le_refl _)) (Nat.le_refl _)
   have G3:Hid (GoodK ((((T.set x 0).set y 0).set a b).set b a)):=g1.set la
   obtain⟨Y,hY⟩:∃ Y,Y=(X.setCell ⟨w.heap.size,a,none⟩ (.int .i64 (b:Nat))).setCell ⟨w.heap.size,b,none⟩ (.int .i64 (a:Nat)):=⟨_,rfl⟩
   have HY:Hid (Y=(X.setCell ⟨w.heap.size,a,none⟩ (.int .i64 (b:Nat))).setCell ⟨w.heap.size,b,none⟩ (.int .i64 (a:Nat))):=hY
   rw[<-hY]at S3 U3 B3
   clear hY s1 g1
   go_upto_region 6 with(fail)
   rw[<-HY.out]
   clear d0 f0 d1 f1
   go_wp2_with (first
    |(refine wpList_load_row rfl 78 _ rfl w.heap.size rfl 78 _ (0,0) _ S3.out Tryd.underlying78 rfl (QV0 G3.out) ?_)
    |(refine wpList_store_row rfl 78 _ _ rfl (w.heap.size+1) _ rfl rfl 78 _ U3.out (QV0 G3.out) (by rw[QZ3 G3.out,QZ3 Qf4]) (QC5 _) ?_))
   refine bodyPost_ret (v:=.tuple #[.agg (tiA R),.int .i64 (M:Nat)]) ?_ rfl ⟨rfl,QJ1 B3.out (by omega)⟩
   rw[results_cell_tmp rfl]
   have hl:=run_loadVar_row (P:=Tryd.prog) (Y.setRow (w.heap.size+1) (tiA ((((T.set x 0).set y 0).set a b).set b a))) (w.heap.size+1) 78 78 (tiA ((((T.set x 0).set y 0).set a b).set b a)) (0,0) _ (U3.out.row (U:=(((T.set x 0).set y 0).set a b).set b a)) Tryd.underlying78 rfl (QV0 G3.out)
   rw[HR.out.1,HR.out.2]
   simp[asAddr,Result.andThen,hl]
theorem ZD2 (w : World) :
    Calls Tryd.prog 34 #[] w fun e w'=>e=.returned (tiV (List.range 26))/\Below w.heap.size w w':=by
 obtain⟨Z,hZ⟩:∃ Z,Z=(w.alloc (.cells #[Value.int .i64 0,Value.int .i64 0,Value.int .i64 0,Value.int .i64 0,Value.int .i64 0,Value.int .i64 0,Value.int .i64 0,Value.int .i64 0,Value.int .i64 0,Value.int .i64 0,Value.int .i64 0,Value.int .i64 0,Value.int .i64 0,Value.int .i64 0,Value.int .i64 0,Value.int .i64 0,Value.int .i64 0,Value.int .i64 0,Value.int .i64 0,Value.int .i64 0,Value.int .i64 0,Value.int .i64 0,Value.int .i64 0,Value.int .i64 0,Value.int .i64 0,Value.int .i64 0] 78)).alloc (.cells #[Value.int .i64 0,Value.int .i64 0,Value.int .i64 0,Value.int .i64 0,Value.int .i64 0,Value.int .i64 0,Value.int .i64 0,Value.int .i64 0,Value.int .i64 0,Value.int .i64 0,Value.int .i64 0,Value.int .i64 0,Value.int .i64 0,Value.int .i64 0,Value.int .i64 0,Value.int .i64 0,Value.int .i64 0,Value.int .i64 0,Value.int .i64 0,Value.int .i64 0,Value.int .i64 0,Value.int .i64 0,Value.int .i64 0,Value.int .i64 0,Value.int .i64 0,Value.int .i64 0] 78):=⟨_,rfl⟩
 have HZ:Hid (Z=(w.alloc (.cells #[Value.int .i64 0,Value.int .i64 0,Value.int .i64 0,Value.int .i64 0,Value.int .i64 0,Value.int .i64 0,Value.int .i64 0,Value.int .i64 0,Value.int .i64 0,Value.int .i64 0,Value.int .i64 0,Value.int .i64 0,Value.int .i64 0,Value.int .i64 0,Value.int .i64 0,Value.int .i64 0,Value.int .i64 0,Value.int .i64 0,Value.int .i64 0,Value.int .i64 0,Value.int .i64 0,Value.int .i64 0,Value.int .i64 0,Value.int .i64 0,Value.int .i64 0,Value.int .i64 0] 78)).alloc (.cells #[Value.int .i64 0,Value.int .i64 0,Value.int .i64 0,Value.int .i64 0,Value.int .i64 0,Value.int .i64 0,Value.int .i64 0,Value.int .i64 0,Value.int .i64 0,Value.int .i64 0,Value.int .i64 0,Value.int .i64 0,Value.int .i64 0,Value.int .i64 0,Value.int .i64 0,Value.int .i64 0,Value.int .i64 0,Value.int .i64 0,Value.int .i64 0,Value.int .i64 0,Value.int .i64 0,Value.int .i64 0,Value.int .i64 0,Value.int .i64 0,Value.int .i64 0,Value.int .i64 0] 78)):=hZ
 have B0:Hid (Below w.heap.size w Z):=(by rw[hZ];exact((Below.refl _ _).alloc (Nat.le_refl _) _).alloc (by simp) _:Below w.heap.size w Z)
 have T0 : Hid (TiAt Z w.heap.size zeK) := (by
  rw[hZ];unfold TiAt
  rw[heap_alloc_old _ _ (by simp),heap_alloc_new];rfl:TiAt Z w.heap.size zeK)
 have T1 : Hid (TiAt Z (w.heap.size + 1) zeK) := (by
  rw[hZ];unfold TiAt
  have:=heap_alloc_new (w.alloc (.cells #[Value.int .i64 0,Value.int .i64 0,Value.int .i64 0,Value.int .i64 0,Value.int .i64 0,Value.int .i64 0,Value.int .i64 0,Value.int .i64 0,Value.int .i64 0,Value.int .i64 0,Value.int .i64 0,Value.int .i64 0,Value.int .i64 0,Value.int .i64 0,Value.int .i64 0,Value.int .i64 0,Value.int .i64 0,Value.int .i64 0,Value.int .i64 0,Value.int .i64 0,Value.int .i64 0,Value.int .i64 0,Value.int .i64 0,Value.int .i64 0,Value.int .i64 0,Value.int .i64 0] 78)) (.cells #[Value.int .i64 0,Value.int .i64 0,Value.int .i64 0,Value.int .i64 0,Value.int .i64 0,Value.int .i64 0,Value.int .i64 0,Value.int .i64 0,Value.int .i64 0,Value.int .i64 0,Value.int .i64 0,Value.int .i64 0,Value.int .i64 0,Value.int .i64 0,Value.int .i64 0,Value.int .i64 0,Value.int .i64 0,Value.int .i64 0,Value.int .i64 0,Value.int .i64 0,Value.int .i64 0,Value.int .i64 0,Value.int .i64 0,Value.int .i64 0,Value.int .i64 0,Value.int .i64 0] 78)
  rw[show(w.alloc (.cells #[Value.int .i64 0,Value.int .i64 0,Value.int .i64 0,Value.int .i64 0,Value.int .i64 0,Value.int .i64 0,Value.int .i64 0,Value.int .i64 0,Value.int .i64 0,Value.int .i64 0,Value.int .i64 0,Value.int .i64 0,Value.int .i64 0,Value.int .i64 0,Value.int .i64 0,Value.int .i64 0,Value.int .i64 0,Value.int .i64 0,Value.int .i64 0,Value.int .i64 0,Value.int .i64 0,Value.int .i64 0,Value.int .i64 0,Value.int .i64 0,Value.int .i64 0,Value.int .i64 0] 78)).heap.size=w.heap.size+1 by simp]at this
  exact this:TiAt Z (w.heap.size+1) zeK)
 clear hZ
 unfold tiV
 go_enter Tryd.func34,Tryd.ntmps34
 go_wp2
 rw[<-HZ.out]
 go_loopw [2,3] (fun _ k wr=>∃ i:Nat,k=.int .i64 (i:Nat)/\i<=26/\Hid (TiAt wr w.heap.size zeK)/\Hid (TiAt wr (w.heap.size+1) (List.range i++List.replicate (26-i) 0))/\Hid (Below w.heap.size w wr)) (fun _ k _=>26-(match k with|.int _ i=>i.toNat|_=>0))
 case atStart=>exact⟨0,rfl,by omega,T0.out,T1.out,B0.out⟩
 case round=>
  obtain⟨i,rfl,hi,h0,h1,hb⟩:=hrel
  rename World=>W1
  have hG : Hid (GoodK (List.range i ++ List.replicate (26 - i) 0)) := (by
   refine⟨by simp;omega,fun v=>?_⟩
   rw[List.getD_eq_getElem?_getD,List.getElem?_append]
   split
   · rename_i hv
     simp at hv
     rw[List.getElem?_range hv];simp;omega
   · rw[List.getElem?_replicate];split<;>simp:GoodK (List.range i++List.replicate (26-i) 0))
  by_cases hlt:i<26
  · have d0:W1.cell? ⟨w.heap.size+1,i,none⟩=_:=h1.out.cell hG.out hlt
    have f0:W1.frozen? ⟨w.heap.size+1,i,none⟩=false:=h1.out.frozen
    have hl:((i:Int)<26)=True:=eq_true (by omega)
    go_wp2
    go_roundw
    case rel=>
     refine⟨i+1,by go_num,by omega,h0.out.other (by omega),?_,QU9 hb.out (by omega)⟩
     have hs:=h1.out.set (x:=i) (a:=i)
     have e:(List.range i++List.replicate (26-i) 0).set i i=List.range (i+1)++List.replicate (26-(i+1)) 0:=by
      rw[List.set_append_right _ _ (by simp),List.range_succ,List.append_assoc,show 26-i=(26-(i+1))+1 by omega,List.replicate_succ]
      simp
     rw[e]at hs
     exact hs
    case measure=>simp;omega
  · have e26:i=26:=by omega
    have hl:((i:Int)<26)=False:=eq_false (by omega)
    have hx1:TiAt W1 (w.heap.size+1) (List.range 26):=by have:=h1.out;rw[e26]at this;simpa using this
    have HX1:Hid (TiAt W1 (w.heap.size+1) (List.range 26)):=hx1
    clear e26 hx1 hlt hG h1
    go_wp2_with (first
     |(refine wpList_load_row rfl 78 _ rfl (w.heap.size+1) rfl 78 _ (0,0) _ HX1.out Tryd.underlying78 rfl (QV0 GoodK.first) ?_)
     |(refine wpList_store_row rfl 78 _ _ rfl w.heap.size _ rfl rfl 78 _ h0.out (QV0 GoodK.first) (by rw[QZ3 GoodK.first,QZ3 Qf4]) (QC5 _) ?_))
    refine bodyPost_ret (v:=.agg (tiA (List.range 26))) ?_ rfl ⟨rfl,QJ1 hb.out (Nat.le_refl _)⟩
    exact results_cell_row rfl _ _ w.heap.size 78 _ (0,0) _ rfl (h0.out.row (U:=List.range 26)) Tryd.underlying78 rfl (QV0 GoodK.first)
end Go.Proofs.YtjcagkgpbcdghaaDoor.Poly
/- Polynomials at work that are written out; terms.Of; the walks of bracket.rings and bracket.curls. -/
namespace Go.Proofs.YtjcagkgpbcdghaaDoor.Poly
open Go.RowKit Go.Maps
set_option maxHeartbeats 4000000
set_option maxRecDepth 100000
theorem ZC7 (b off cap : Nat) (l : List (Int × Int)) (K : Nat) (w : World) (hm : mayB l = true) (hKK : ∀ k, k < l.length → -(K : Int) ≤ (l.getD k (0, 0)).1 ∧ (l.getD k (0, 0)).1 ≤ (K : Int)) (hbw : b < w.heap.size) (hT : TermsAt w b off l) :
    Calls Tryd.prog 53 #[.slice (some ⟨b,off,none⟩) l.length cap] w fun e w'=>∃ D:DataW Unit,e=.returned (.map (some w.heap.size))/\w'.ownsMap Tryd.prog 3 (plainElem Tryd.prog 3) w.heap.size l.length D/\(∀ x,coefOf D x=coefL l x)/\QX5 D (K:Int)/\Below w.heap.size w w':=by
 have hl64:=((may_iff l).1 hm).1
 have HM:Hid (mayB l=true):=hm
 have HT:Hid (TermsAt w b off l):=hT
 have hmm:=ZZ8 l.length
 have HKK:Hid (∀ k,k<l.length -> -(K:Int)<=(l.getD k (0,0)).1/\(l.getD k (0,0)).1<=(K:Int)):=hKK
 clear hm hT hKK
 go_enter Tryd.func53,Tryd.ntmps53
 go_wp2
 go_loopw [11] (fun i wr=>∃ (k:Nat) (D:DataW Unit),k<=l.length/\i=.int .i64 k/\wr.ownsMap Tryd.prog 3 (plainElem Tryd.prog 3) w.heap.size k D/\Below w.heap.size w wr/\Hid (∀ x,coefOf D x=coefL (l.take k) x)/\Hid (QX5 D (K:Int))) (fun i _=>l.length-(intOf i).toNat)
 case atStart=>exact⟨0,.map [],Nat.zero_le _,rfl,World.ownsMap_made _ _ _ _,(Below.refl _ _).alloc (Nat.le_refl _) _,fun x=>coefOf_none rfl,fun x hx=>by cases hx⟩
 case round=>
  obtain⟨k,D,hk,rfl,hown,hb,hD,hK⟩:=hrel
  by_cases hlt:k<l.length
  · have c0:=bcell hb hbw (HT.out k hlt).1
    have c1:=bcell hb hbw (HT.out k hlt).2
    have hok:=(okB_iff l k).1 (((may_iff l).1 HM.out).2 k hlt)
    have ok2:=HKK.out k hlt
    have hsz:=hb.size
    have hbr:b<wr.heap.size:=Nat.lt_of_lt_of_le hbw hsz
    have HS0:=QG7 l k hlt
    generalize he:(l.getD k (0,0)).1=e at c0 hok HS0 ok2
    generalize hc:(l.getD k (0,0)).2=c at c1 hok HS0
    have HS:Hid (∀ x,coefL (l.take (k+1)) x=coefL (l.take k) x+(if e=x then c else 0)):=HS0
    have HB:Hid (∀ x,-64000000<=coefL (l.take k) x/\coefL (l.take k) x<=64000000):=fun x=>by
     have:=XC4 (l.take k) 1000000 x (fun t ht=>(XA3 HM.out t (List.mem_of_mem_take ht)).2.2) (by decide)
     have hl:(l.take k).length<=64:=by simp;omega
     omega
    have HK2:Hid (-(K:Int)<=e/\e<=(K:Int)):=ok2
    clear he hc HS0 ok2
    obtain⟨o1,o2,o3,o4,o5,-⟩:=hok
    clear o5
    have hBlt:=hown.lt
    go_wp2_with (first
     |(at_lookup;refine wpList_lookup_own_int _ rfl _ _ 50 rfl 3 3 .i64 law3 Tryd.underlying50 Tryd.underlying3 (zero3 _) w.heap.size k _ rfl (hown.alloc _) _ _ rfl (keyOf_int_mk Tryd.underlying3 (WalkArith.wf_i64 (by omega))) ?_;intro c' hat hwc;refine Hid.out ?_))
    refine Lib.hid ?_
    have hc':coefL (l.take k) e=c':=by rw[<-hD.out,coefOf_look hat]
    have hbd:=HB.out e
    rw[hc']at hbd
    have HC':Hid (coefL (l.take k) e=c'):=hc'
    have hdm:=hown.isMap
    clear hat hwc hc'
    go_wp2_with (first
     |(at_mapUpdate;refine wpList_mapUpdate_own _ rfl _ _ _ 50 rfl 3 3 law3 Tryd.underlying50 _ w.heap.size k _ rfl (hown.alloc _) (by unfold maxLen;omega) _ _ _ rfl rfl (keyOf_int_mk Tryd.underlying3 (WalkArith.wf_i64 (by omega))) _ [] (plainElem_int Tryd.underlying3 (WalkArith.wf_i64 (by omega))) ?_;intro w2 hown2 hg2;go_frame))
    go_roundw
    case rel=>
     refine⟨k+1,_,by omega,by go_num,hown2,(hb.alloc hsz _).grown hg2 (by simp;omega) (fun j hj=>by cases hj;exact Nat.le_refl _),fun x=>?_,QW1 hK.out HK2.out.1 HK2.out.2 _⟩
     rw[coefOf_put hdm,HS.out]
     by_cases hx:e=x
     · rw[if_pos hx,if_pos hx,<-hx,HC'.out]
     · rw[if_neg hx,if_neg hx,hD.out];omega
    case measure=>simp[intOf];omega
  · obtain rfl:k=l.length:=by omega
    have htake:l.take l.length=l:=List.take_of_length_le (Nat.le_refl _)
    have hD2:=hD.out
    rw[htake]at hD2
    have HD2:Hid _:=hD2
    clear hD hD2 htake
    go_wp2
    go_ret
    exact⟨D,rfl,hown,HD2.out,hK.out,hb⟩
theorem mkW (w:World):(Instr.makeMap 50 none).run Tryd.prog w=.ok (.map (some w.heap.size)) (w.alloc (.map #[] 0)):=rfl
theorem QC9 (k c y:Int):coefL [(k,c)] y=if k=y then c else 0:=by
 simp only[coefL];omega
theorem Xx9 (W : World) (k c : Int) (K : Nat) (hk : k.natAbs ≤ K) (hK : K ≤ 900) (hc : c = 1 ∨ c = -1) :
    ∃ w2,(Instr.mapUpdate 50 (.map (some W.heap.size)) (.int .i64 k) (.int .i64 c)).run Tryd.prog (W.alloc (.map #[] 0))=.ok () w2/\WkV w2 w2.heap.size (.map (some W.heap.size)) 1 K (coefL [(k,c)])/\Below W.heap.size W w2:=by
 have h0:(W.alloc (.map #[] 0)).ownsMap Tryd.prog 3 (plainElem Tryd.prog 3) W.heap.size 0 (.map []:DataW Unit):=World.ownsMap_made _ _ _ _
 obtain⟨w2,hins,hown,hg⟩:=h0.update law3 Tryd.underlying50 (by unfold maxLen;omega) (keyOf_int_mk Tryd.underlying3 (WalkArith.wf_i64 (n:=k) (by omega))) (plainElem_int Tryd.underlying3 (WalkArith.wf_i64 (n:=c) (by omega)))
 have hb:Below W.heap.size W w2:=((Below.refl _ _).alloc (Nat.le_refl _) _).grown hg (by simp) (fun j hj=>by cases hj;exact Nat.le_refl _)
 refine⟨w2,hins,Or.inr ⟨_,_,rfl,hown.lt,hown,QW1 (fun x hx=>by cases hx) (by omega) (by omega) _,fun y=>?_⟩,hb⟩
 rw[coefOf_put h0.isMap,QC9]
 split
 · rfl
 · exact coefOf_none rfl
structure RingAt (W:World):Prop where
 r0:W.cell? ⟨0,0,none⟩=some (.int .i64 (-2))
 r1:W.cell? ⟨0,1,none⟩=some (.int .i64 (-1))
 r2:W.cell? ⟨0,2,none⟩=some (.int .i64 2)
 r3:W.cell? ⟨0,3,none⟩=some (.int .i64 (-1))
theorem RingAt.lt {W:World} (h:RingAt W):0<W.heap.size:=by
 have h0:=h.r0
 unfold World.cell? at h0
 cases hh:W.heap[0]? with
 |none=>rw[hh]at h0;simp at h0
 |some o=>exact(Array.getElem?_eq_some_iff.1 hh).1
theorem RingAt.on {W W':World} (h:RingAt W) {B:Nat} (hb:Below B W W') (hB:0<B):RingAt W':=⟨bcell hb hB h.r0,bcell hb hB h.r1,bcell hb hB h.r2,bcell hb hB h.r3⟩
theorem RingAt.any {W W':World} (h:RingAt W) (hb:Below W.heap.size W W'):RingAt W':=h.on hb h.lt
theorem Zw5 (f:Int->Int):QQ5 [(-2,-1),(2,-1)] f=dlA f:=by
 funext y
 simp only[QQ5,dlA]
 rw[show y - -2=y+2 by omega];omega
theorem KG4 (y:Int):coefL [(0,1)] y=QJ2 y:=by
 rw[QC9];unfold QJ2
 by_cases h:y=0
 · rw[if_pos h,if_pos h.symm]
 · rw[if_neg h,if_neg (fun e=>h e.symm)]
theorem WkV.coef {w:World} {B:Nat} {v:Value} {n K:Nat} {f g:Int->Int} (h:WkV w B v n K f) (e:∀ y,f y=g y):WkV w B v n K g:=by
 rw[<-show f=g from funext e];exact h
theorem ZJ1 (y:Int):(coefL [((-2:Int),(-1:Int)),(2,-1)] y).natAbs<=1:=by
 simp only[coefL]
 by_cases h : -2=y
 · rw[if_pos h,if_neg (by omega)];decide
 · rw[if_neg h];split<;>decide
theorem rings_any (n : Nat) (w : World) (hn : n ≤ 16) (hR : RingAt w) :
    Calls Tryd.prog 35 #[.int .i64 (n:Nat)] w fun e w'=>∃ c,e=.returned (.map (some c))/\w.heap.size<=c/\WkV w' w'.heap.size (.map (some c)) (2*(2*n)+1) (2*n) (dlN n QJ2)/\Below w.heap.size w w':=by
 have hlt:=hR.lt
 have hmm:=mkW
 obtain⟨w2,hins,hwk,hb2⟩:=Xx9 w 0 1 0 (by decide) (by decide) (Or.inl rfl)
 have HWK:Hid (WkV w2 w2.heap.size (.map (some w.heap.size)) (2*(2*0)+1) (2*0) (dlN 0 QJ2)):=hwk.coef KG4
 have HB2:Hid (Below w.heap.size w w2):=hb2
 have HR:Hid (RingAt w):=hR
 have r0:=hR.r0
 have r1:=hR.r1
 have r2:=hR.r2
 have r3:=hR.r3
 have hs2:=hwk
 clear hR hb2 hwk hs2
 go_enter Tryd.func35,Tryd.ntmps35
 go_wp2
 obtain⟨Z,hZ⟩:∃ Z,Z=w2.alloc (.cells #[.int .i64 (-2),.int .i64 (-1),.int .i64 2,.int .i64 (-1)] 102):=⟨_,rfl⟩
 rw[<-hZ]
 have hbZ:Below w2.heap.size w2 Z:=by rw[hZ];exact(Below.refl _ _).alloc (Nat.le_refl _) _
 have HBZ:Hid (Below w.heap.size w Z):=HB2.out.trans (hbZ.mono HB2.out.size)
 have HWZ:Hid (WkV Z Z.heap.size (.map (some w.heap.size)) (2*(2*0)+1) (2*0) (dlN 0 QJ2)):=(HWK.out.on hbZ).mono hbZ.size (Nat.le_refl _) (Nat.le_refl _)
 have HT:Hid (Z.heap[w2.heap.size]?=some (.cells #[.int .i64 (-2),.int .i64 (-1),.int .i64 2,.int .i64 (-1)] 102 (0,0))):=(by rw[hZ,heap_alloc_new]:Z.heap[w2.heap.size]?=some (.cells #[.int .i64 (-2),.int .i64 (-1),.int .i64 2,.int .i64 (-1)] 102 (0,0)))
 have hs2:w.heap.size<=w2.heap.size:=HB2.out.size
 clear hZ hbZ HWK HB2 hins r0 r1 r2 r3
 generalize w2.heap.size=g at*
 go_loopw [4,9] (fun v i wr=>∃ k c:Nat,i=.int .i64 (k:Nat)/\k<=n/\v=.map (some c)/\w.heap.size<=c/\Hid (WkV wr wr.heap.size (.map (some c)) (2*(2*k)+1) (2*k) (dlN k QJ2))/\Hid (wr.heap[g]?=some (.cells #[.int .i64 (-2),.int .i64 (-1),.int .i64 2,.int .i64 (-1)] 102 (0,0)))/\Hid (Below w.heap.size w wr)) (fun _ i _=>n-(intOf i).toNat)
 case atStart=>exact⟨0,w.heap.size,rfl,by omega,rfl,Nat.le_refl _,HWZ.out,HT.out,HBZ.out⟩
 case round=>
  obtain⟨k,c,rfl,hk,rfl,hc,hW,hT,hb⟩:=hrel
  clear HWZ HT HBZ
  rename World=>W1
  by_cases hlt:k<n
  · have hl:((k:Int)<(n:Int))=True:=eq_true (by omega)
    have hgl:g<W1.heap.size:=(Array.getElem?_eq_some_iff.1 hT.out).1
    have HTM : Hid (TermsAt W1 g 0 [(-2, -1), (2, -1)]) := (fun i hi => by
     have hi2:i<2:=hi
     unfold World.cell?
     rw[hT.out]
     match i,hi2 with
     |0,_=>exact⟨rfl,rfl⟩
     |1,_=>exact⟨rfl,rfl⟩:TermsAt W1 g 0 [(-2,-1),(2,-1)])
    have HC := ZC7 g 0 2 [(-2, -1), (2, -1)] 2 W1 (by decide) (fun i hi => by
     have hi2:i<2:=hi
     match i,hi2 with
     |0,_=>decide
     |1,_=>decide) hgl HTM.out
    have HC2:=QQ1 HC
    clear HC
    go_wp2_with (first
     |(go_at_call 53;refine HC2.out.mono ?_;rintro e9 w9 ⟨D9,rfl,ho9,hc9,hk9,hb9⟩;refine Hid.out ?_))
    refine Lib.hid ?_
    have hl9:=ho9.lt
    have HQ:Hid (WkV w9 w9.heap.size (.map (some W1.heap.size)) 2 2 (coefL [(-2,-1),(2,-1)])):=Or.inr ⟨_,D9,rfl,hl9,ho9,hk9,hc9⟩
    have HP:Hid (WkV w9 w9.heap.size (.map (some c)) (2*(2*k)+1) (2*k) (dlN k QJ2)):=(hW.out.on hb9).mono hb9.size (Nat.le_refl _) (Nat.le_refl _)
    have HTI := QY7 (.map (some c)) (.map (some W1.heap.size)) (2 * (2 * k) + 1) 2 (2 * k) 2 (2 ^ k) 1 [(-2, -1), (2, -1)] (dlN k QJ2) _ w9 (by omega) (by omega) (by omega) (by
     have h16:2 ^ k<=2 ^ 16:=Nat.pow_le_pow_right (by omega) (by omega)
     have:=Nat.mul_le_mul (show 2*(2*k)+1<=100 by omega) (show 2 ^ k*1<=65536 by omega)
     omega) (fun y=>by have:=ZK0 Kv0 k y;omega) (fun y=>ZJ1 y) HP.out HQ.out (by simp) (fun y=>rfl)
    have HTI2:=QQ1 HTI
    have HT9:Hid (w9.heap[g]?=some (.cells #[.int .i64 (-2),.int .i64 (-1),.int .i64 2,.int .i64 (-1)] 102 (0,0))):=(hb9.block g hgl).trans hT.out
    have HB9:Hid (Below w.heap.size w w9):=hb.out.trans (hb9.mono hb.out.size)
    have hs9:=HB9.out.size
    have hg9:g<w9.heap.size:=(Array.getElem?_eq_some_iff.1 HT9.out).1
    clear HTI ho9 hc9 hk9 hb9 hl9 HQ HP
    go_wp2_with (first
     |(go_at_call 17;refine HTI2.out.mono ?_;rintro e8 w8 ⟨rfl,hw8,hb8⟩;refine Hid.out ?_))
    refine Lib.hid ?_
    have HW8:=QQ1 hw8
    clear hw8
    go_wp2
    go_roundw
    case rel=>
     refine⟨k+1,w9.heap.size,by go_num,by omega,rfl,hs9,?_,(hb8.block g hg9).trans HT9.out,HB9.out.trans (hb8.mono hs9)⟩
     have:=HW8.out
     rw[Zw5]at this
     exact this
    case measure=>simp[intOf];omega
  · have hl:((k:Int)<(n:Int))=False:=eq_false (by omega)
    have e:k=n:=by omega
    subst e
    clear hlt
    go_wp2
    go_ret
    exact⟨c,rfl,hc,hW.out,hb.out⟩
theorem KV6 (p : Int) (w : World) (hp : p.natAbs ≤ 16) :
    Calls Tryd.prog 18 #[.int .i64 p] w fun e w'=>∃ c,e=.returned (.map (some c))/\WkV w' w'.heap.size (.map (some c)) 1 48 (coefL [(3*p,if p%2=0 then 1 else -1)])/\Below w.heap.size w w':=by
 have hmm:=mkW
 by_cases he:p.tmod 2=0
 · have hd:(p.tmod 2 != 0)=false:=by rw[he];rfl
   have hm2:p%2=0:=by have:=Int.tmod_def p 2;omega
   obtain⟨w2,hins,hwk,hb2⟩:=Xx9 w (3*p) 1 48 (by omega) (by decide) (Or.inl rfl)
   rw[if_pos hm2]
   have HWK:=QQ1 hwk
   clear hwk hm2
   go_enter Tryd.func18,Tryd.ntmps18
   go_wp2
   go_ret
   exact⟨_,rfl,HWK.out,hb2⟩
 · have hd:(p.tmod 2 != 0)=true:=by rw[bne_iff_ne];exact he
   have hm2:¬ p%2=0:=fun h=>he (Int.tmod_eq_zero_of_dvd (Int.dvd_of_emod_eq_zero h))
   obtain⟨w2,hins,hwk,hb2⟩:=Xx9 w (3*p) (-1) 48 (by omega) (by decide) (Or.inr rfl)
   rw[if_neg hm2]
   have HWK:=QQ1 hwk
   clear hwk hm2 he
   go_enter Tryd.func18,Tryd.ntmps18
   go_wp2
   go_ret
   exact⟨_,rfl,HWK.out,hb2⟩
end Go.Proofs.YtjcagkgpbcdghaaDoor.Poly
