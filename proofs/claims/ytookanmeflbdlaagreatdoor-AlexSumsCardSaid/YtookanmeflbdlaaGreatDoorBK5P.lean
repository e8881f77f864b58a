/- Several texts of the proof, one behind the other. -/
import Derived.Test.YtookanmeflbdlaaGreatDoorTkhP
import Derived.Test.YtookanmeflbdlaaGreatDoorBKm
import Derived.Deep.Heap
import Derived.Laws.ResultCell
import Derived.Deep.Cut
import Derived.Deep.RegionHeldLaw
import Derived.Test.YtookanmeflbdlaaGreatDoorBaseP
/- The walks of bracket.untied and of ties.tied. -/
namespace Go.Proofs.YtookanmeflbdlaaGreatDoor.Poly
open Go.RowKit Go.Maps
set_option maxHeartbeats 4000000
set_option maxRecDepth 100000
def TiAt (W:World) (g:Nat) (T:List Nat):Prop:=W.heap[g]?=some (.cells (tiA T) 112 (0,0))
theorem TiAt.cell {W:World} {g x:Nat} {T:List Nat} (h:TiAt W g T) (hT:GoodK T) (hx:x<26):W.cell? ⟨g,x,none⟩=some (.int .i64 (T.getD x 0:Nat)):=by
 unfold World.cell?;rw[h];exact KA8 hT hx
theorem TiAt.frozen {W:World} {g x:Nat} {T:List Nat} (h:TiAt W g T):W.frozen? ⟨g,x,none⟩=false:=by
 unfold World.frozen?;rw[h];simp
theorem TiAt.set {W:World} {g x a:Nat} {T:List Nat} (h:TiAt W g T):TiAt (W.setCell ⟨g,x,none⟩ (.int .i64 (a:Nat))) g (T.set x a):=by
 unfold TiAt at h ⊢
 simp only[World.setCell,Array.getElem?_modify,h,if_true,Option.map_some]
 rw[<-Kw0];rfl
theorem TiAt.other {W:World} {g g' x:Nat} {v:Value} {T:List Nat} (h:TiAt W g T) (hne:g≠g'):TiAt (W.setCell ⟨g',x,none⟩ v) g T:=by
 unfold TiAt at h ⊢
 simp only[World.setCell,Array.getElem?_modify]
 rw[if_neg (Ne.symm hne)];exact h
theorem TiAt.row {W:World} {g:Nat} {T U:List Nat} (h:TiAt W g T):TiAt (W.setRow g (tiA U)) g U:=by
 unfold TiAt at h ⊢
 simp only[World.setRow,Array.getElem?_modify,h,if_true,Option.map_some]
theorem TiAt.on {W W':World} {g B:Nat} {T:List Nat} (h:TiAt W g T) (hb:Below B W W') (hlt:g<B):TiAt W' g T:=(hb.block g hlt).trans h
theorem TiAt.lt {W:World} {g:Nat} {T:List Nat} (h:TiAt W g T):g<W.heap.size:=(Array.getElem?_eq_some_iff.1 h).1
theorem JB9:(Tryz.prog.info? 112).map (·.size)=some 26:=by kernel_rfl
theorem QJ8 {T:List Nat} (h:GoodK T):(Tryz.prog.info? 112).map (·.size)=some (tiA T).size:=by rw[QK2 h];exact JB9
def zeK:List Nat:=List.replicate 26 0
theorem Qf2:GoodK zeK:=by
 refine⟨by simp[zeK],fun v=>?_⟩
 unfold zeK
 rw[List.getD_eq_getElem?_getD,List.getElem?_replicate]
 split<;>simp
theorem QJ5 {B g:Nat} {w W:World} {cs:Array Value} (h:Below B w W) (hg:B<=g):Below B w (W.setRow g cs):=
 ⟨h.os, h.tape, h.output, by simp [World.setRow]; exact h.size, fun i hi => by
  rw[<-h.block i hi]
  simp only[World.setRow,Array.getElem?_modify]
  rw[if_neg (by omega)]⟩
theorem QU0 {B g x:Nat} {w W:World} {v:Value} (h:Below B w W) (hg:B<=g):Below B w (W.setCell ⟨g,x,none⟩ v):=
 ⟨h.os, h.tape, h.output, by simp [World.setCell]; exact h.size, fun i hi => by
  rw[<-h.block i hi]
  simp only[World.setCell,Array.getElem?_modify]
  rw[if_neg (by omega)]⟩
theorem Qv6 (T : List Nat) (x y : Nat) (w : World) (hT : GoodK T) (hx : x < 26) (hy : y < 26) :
    Calls Tryz.prog 93 #[tiV T,.int .i64 (x:Nat),.int .i64 (y:Nat)] w fun e w'=>e=.returned (.tuple #[tiV (Qu2 T x y),.int .i64 (XC6 T x y:Nat)])/\Below w.heap.size w w':=by
 obtain⟨Z,hZ⟩:∃ Z,Z=(w.alloc (.cells (tiA T) 112)).alloc (.cells #[Value.int .i64 0,Value.int .i64 0,Value.int .i64 0,Value.int .i64 0,Value.int .i64 0,Value.int .i64 0,Value.int .i64 0,Value.int .i64 0,Value.int .i64 0,Value.int .i64 0,Value.int .i64 0,Value.int .i64 0,Value.int .i64 0,Value.int .i64 0,Value.int .i64 0,Value.int .i64 0,Value.int .i64 0,Value.int .i64 0,Value.int .i64 0,Value.int .i64 0,Value.int .i64 0,Value.int .i64 0,Value.int .i64 0,Value.int .i64 0,Value.int .i64 0,Value.int .i64 0] 112):=⟨_,rfl⟩
 have HZ:=hidB hZ
 have B0:=hidB (show Below w.heap.size w Z by rw[hZ];exact((Below.refl _ _).alloc (Nat.le_refl _) _).alloc (by simp) _)
 have T0 : Hid (TiAt Z w.heap.size T) := (by
  rw[hZ];unfold TiAt
  rw[heap_alloc_old _ _ (by simp),heap_alloc_new]:TiAt Z w.heap.size T)
 have T1 : Hid (TiAt Z (w.heap.size + 1) zeK) := (by
  rw[hZ];unfold TiAt
  have:=heap_alloc_new (w.alloc (.cells (tiA T) 112)) (.cells #[Value.int .i64 0,Value.int .i64 0,Value.int .i64 0,Value.int .i64 0,Value.int .i64 0,Value.int .i64 0,Value.int .i64 0,Value.int .i64 0,Value.int .i64 0,Value.int .i64 0,Value.int .i64 0,Value.int .i64 0,Value.int .i64 0,Value.int .i64 0,Value.int .i64 0,Value.int .i64 0,Value.int .i64 0,Value.int .i64 0,Value.int .i64 0,Value.int .i64 0,Value.int .i64 0,Value.int .i64 0,Value.int .i64 0,Value.int .i64 0,Value.int .i64 0,Value.int .i64 0] 112)
  rw[show(w.alloc (.cells (tiA T) 112)).heap.size=w.heap.size+1 by simp]at this
  exact this:TiAt Z (w.heap.size+1) zeK)
 clear hZ
 have HT:=hidB hT
 have c0:Z.cell? ⟨w.heap.size,x,none⟩=some (.int .i64 (T.getD x 0:Nat)):=T0.out.cell hT hx
 have c1:Z.cell? ⟨w.heap.size,y,none⟩=some (.int .i64 (T.getD y 0:Nat)):=T0.out.cell hT hy
 have la:=hT.lt x
 have lb:=hT.lt y
 obtain⟨a,hA⟩:∃ a,T.getD x 0=a:=⟨_,rfl⟩
 obtain⟨b,hB⟩:∃ b,T.getD y 0=b:=⟨_,rfl⟩
 rw[hA]at c0 la
 rw[hB]at c1 lb
 have HA:=hidB hA
 have HB:=hidB hB
 clear hA hB hT
 unfold tiV
 have HP:=hidB (show Qu2 T x y=if a=y then(T.set x 0).set y 0 else(((T.set x 0).set y 0).set a b).set b a by unfold Qu2;rw[HA.out,HB.out])
 have HN:=hidB (show XC6 T x y=if a=y then 1 else 0 by unfold XC6;rw[HA.out])
 generalize Qu2 T x y=R at HP ⊢
 generalize XC6 T x y=M at HN ⊢
 go_enter Tryz.func93,Tryz.ntmps93
 go_wp2
 rw[<-HZ.out]
 go_quiet (fail)
 obtain⟨V,hV⟩:∃ V,V=Z.drewN nq:=⟨_,rfl⟩
 rw[<-hV]
 have hbV:Below Z.heap.size Z V:=by rw[hV];exact below_drewN (Below.refl _ _) _
 have BV:=hidB (B0.out.trans (hbV.mono B0.out.size))
 have V0:=hidB (T0.out.on hbV T0.out.lt)
 have V1:=hidB (T1.out.on hbV T1.out.lt)
 clear hV hbV c0 c1
 have d0:V.cell? ⟨w.heap.size,x,none⟩=some (.int .i64 (a:Nat)):=by rw[<-HA.out];exact V0.out.cell HT.out hx
 have f0:V.frozen? ⟨w.heap.size,x,none⟩=false:=V0.out.frozen
 have s1:TiAt (V.setCell ⟨w.heap.size,x,none⟩ (.int .i64 0)) w.heap.size (T.set x 0):=V0.out.set (a:=0)
 have g1:=HT.out.set (x:=x) (a:=0) (by omega)
 have d1:=s1.cell g1 hy
 have f1:=s1.frozen (x:=y)
 have S2:Hid (TiAt ((V.setCell ⟨w.heap.size,x,none⟩ (.int .i64 0)).setCell ⟨w.heap.size,y,none⟩ (.int .i64 0)) w.heap.size ((T.set x 0).set y 0)):=s1.set (a:=0)
 have U2:Hid (TiAt ((V.setCell ⟨w.heap.size,x,none⟩ (.int .i64 0)).setCell ⟨w.heap.size,y,none⟩ (.int .i64 0)) (w.heap.size+1) zeK):=(V1.out.other (by omega)).other (by omega)
 have B2:Hid (Below w.heap.size w ((V.setCell ⟨w.heap.size,x,none⟩ (.int .i64 0)).setCell ⟨w.heap.size,y,none⟩ (.int .i64 0))):=QU0 (QU0 BV.out (Nat.le_refl _)) (Nat.le_refl _)
 have G2:Hid (GoodK ((T.set x 0).set y 0)):=g1.set (by omega)
 obtain⟨X,hX⟩:∃ X,X=(V.setCell ⟨w.heap.size,x,none⟩ (.int .i64 0)).setCell ⟨w.heap.size,y,none⟩ (.int .i64 0):=⟨_,rfl⟩
 have HX:=hidB hX
 rw[<-hX]at S2 U2 B2
 clear hX s1 g1
 go_upto_region 3 with(fail)
 rw[<-HX.out]
 clear d0 f0 d1 f1
 by_cases hay:a=y
 · have HR:Hid (R=(T.set x 0).set y 0/\M=1):=⟨by rw[HP.out,if_pos hay],by rw[HN.out,if_pos hay]⟩
   have hd:((a:Int)==(y:Int))=true:=by rw[beq_iff_eq];omega
   clear hay
   go_wp2_with (first
    |(refine wpList_load_row rfl 112 _ rfl w.heap.size rfl 112 _ (0,0) _ S2.out Tryz.underlying112 rfl (QJ8 G2.out) ?_)
    |(refine wpList_store_row rfl 112 _ _ rfl (w.heap.size+1) _ rfl rfl 112 _ U2.out (QJ8 G2.out) (by rw[QK2 G2.out,QK2 Qf2]) (QC7 _) ?_))
   refine bodyPost_ret (v:=.tuple #[.agg (tiA R),.int .i64 (M:Nat)]) ?_ rfl ⟨rfl,QJ5 B2.out (by omega)⟩
   rw[results_cell_tmp rfl]
   have hl:=run_loadVar_row (P:=Tryz.prog) (X.setRow (w.heap.size+1) (tiA ((T.set x 0).set y 0))) (w.heap.size+1) 112 112 (tiA ((T.set x 0).set y 0)) (0,0) _ (U2.out.row (U:=(T.set x 0).set y 0)) Tryz.underlying112 rfl (QJ8 G2.out)
   rw[HR.out.1,HR.out.2]
   simp[asAddr,Result.andThen,hl]
 · have HR:Hid (R=(((T.set x 0).set y 0).set a b).set b a/\M=0):=⟨by rw[HP.out,if_neg hay],by rw[HN.out,if_neg hay]⟩
   have hd:((a:Int)==(y:Int))=false:=by rw[beq_eq_false_iff_ne];omega
   clear hay
   have d0:X.cell? ⟨w.heap.size,a,none⟩=_:=S2.out.cell G2.out la
   have f0:X.frozen? ⟨w.heap.size,a,none⟩=false:=S2.out.frozen
   have s1:TiAt (X.setCell ⟨w.heap.size,a,none⟩ (.int .i64 (b:Nat))) w.heap.size (((T.set x 0).set y 0).set a b):=S2.out.set
   have g1:=G2.out.set (x:=a) (a:=b) lb
   have d1:=s1.cell g1 lb
   have f1:=s1.frozen (x:=b)
   have S3:Hid (TiAt ((X.setCell ⟨w.heap.size,a,none⟩ (.int .i64 (b:Nat))).setCell ⟨w.heap.size,b,none⟩ (.int .i64 (a:Nat))) w.heap.size ((((T.set x 0).set y 0).set a b).set b a)):=s1.set
   have U3:Hid (TiAt ((X.setCell ⟨w.heap.size,a,none⟩ (.int .i64 (b:Nat))).setCell ⟨w.heap.size,b,none⟩ (.int .i64 (a:Nat))) (w.heap.size+1) zeK):=(U2.out.other (by omega)).other (by omega)
   have B3:Hid (Below w.heap.size w ((X.setCell ⟨w.heap.size,a,none⟩ (.int .i64 (b:Nat))).setCell ⟨w.heap.size,b,none⟩ (.int .i64 (a:Nat)))):=QU0 (QU0 B2.out (Nat.le_refl _)) (Nat.le_refl _)
   have G3:Hid (GoodK ((((T.set x 0).set y 0).set a b).set b a)):=g1.set la
   obtain⟨Y,hY⟩:∃ Y,Y=(X.setCell ⟨w.heap.size,a,none⟩ (.int .i64 (b:Nat))).setCell ⟨w.heap.size,b,none⟩ (.int .i64 (a:Nat)):=⟨_,rfl⟩
   have HY:=hidB hY
   rw[<-hY]at S3 U3 B3
   clear hY s1 g1
   go_upto_region 6 with(fail)
   rw[<-HY.out]
   clear d0 f0 d1 f1
   go_wp2_with (first
    |(refine wpList_load_row rfl 112 _ rfl w.heap.size rfl 112 _ (0,0) _ S3.out Tryz.underlying112 rfl (QJ8 G3.out) ?_)
    |(refine wpList_store_row rfl 112 _ _ rfl (w.heap.size+1) _ rfl rfl 112 _ U3.out (QJ8 G3.out) (by rw[QK2 G3.out,QK2 Qf2]) (QC7 _) ?_))
   refine bodyPost_ret (v:=.tuple #[.agg (tiA R),.int .i64 (M:Nat)]) ?_ rfl ⟨rfl,QJ5 B3.out (by omega)⟩
   rw[results_cell_tmp rfl]
   have hl:=run_loadVar_row (P:=Tryz.prog) (Y.setRow (w.heap.size+1) (tiA ((((T.set x 0).set y 0).set a b).set b a))) (w.heap.size+1) 112 112 (tiA ((((T.set x 0).set y 0).set a b).set b a)) (0,0) _ (U3.out.row (U:=(((T.set x 0).set y 0).set a b).set b a)) Tryz.underlying112 rfl (QJ8 G3.out)
   rw[HR.out.1,HR.out.2]
   simp[asAddr,Result.andThen,hl]
theorem ZY8 (w : World) :
    Calls Tryz.prog 61 #[] w fun e w'=>e=.returned (tiV (List.range 26))/\Below w.heap.size w w':=by
 obtain⟨Z,hZ⟩:∃ Z,Z=(w.alloc (.cells #[Value.int .i64 0,Value.int .i64 0,Value.int .i64 0,Value.int .i64 0,Value.int .i64 0,Value.int .i64 0,Value.int .i64 0,Value.int .i64 0,Value.int .i64 0,Value.int .i64 0,Value.int .i64 0,Value.int .i64 0,Value.int .i64 0,Value.int .i64 0,Value.int .i64 0,Value.int .i64 0,Value.int .i64 0,Value.int .i64 0,Value.int .i64 0,Value.int .i64 0,Value.int .i64 0,Value.int .i64 0,Value.int .i64 0,Value.int .i64 0,Value.int .i64 0,Value.int .i64 0] 112)).alloc (.cells #[Value.int .i64 0,Value.int .i64 0,Value.int .i64 0,Value.int .i64 0,Value.int .i64 0,Value.int .i64 0,Value.int .i64 0,Value.int .i64 0,Value.int .i64 0,Value.int .i64 0,Value.int .i64 0,Value.int .i64 0,Value.int .i64 0,Value.int .i64 0,Value.int .i64 0,Value.int .i64 0,Value.int .i64 0,Value.int .i64 0,Value.int .i64 0,Value.int .i64 0,Value.int .i64 0,Value.int .i64 0,Value.int .i64 0,Value.int .i64 0,Value.int .i64 0,Value.int .i64 0] 112):=⟨_,rfl⟩
 have HZ:=hidB hZ
 have B0:=hidB (show Below w.heap.size w Z by rw[hZ];exact((Below.refl _ _).alloc (Nat.le_refl _) _).alloc (by simp) _)
 have T0 : Hid (TiAt Z w.heap.size zeK) := (by
  rw[hZ];unfold TiAt
  rw[heap_alloc_old _ _ (by simp),heap_alloc_new];rfl:TiAt Z w.heap.size zeK)
 have T1 : Hid (TiAt Z (w.heap.size + 1) zeK) := (by
  rw[hZ];unfold TiAt
  have:=heap_alloc_new (w.alloc (.cells #[Value.int .i64 0,Value.int .i64 0,Value.int .i64 0,Value.int .i64 0,Value.int .i64 0,Value.int .i64 0,Value.int .i64 0,Value.int .i64 0,Value.int .i64 0,Value.int .i64 0,Value.int .i64 0,Value.int .i64 0,Value.int .i64 0,Value.int .i64 0,Value.int .i64 0,Value.int .i64 0,Value.int .i64 0,Value.int .i64 0,Value.int .i64 0,Value.int .i64 0,Value.int .i64 0,Value.int .i64 0,Value.int .i64 0,Value.int .i64 0,Value.int .i64 0,Value.int .i64 0] 112)) (.cells #[Value.int .i64 0,Value.int .i64 0,Value.int .i64 0,Value.int .i64 0,Value.int .i64 0,Value.int .i64 0,Value.int .i64 0,Value.int .i64 0,Value.int .i64 0,Value.int .i64 0,Value.int .i64 0,Value.int .i64 0,Value.int .i64 0,Value.int .i64 0,Value.int .i64 0,Value.int .i64 0,Value.int .i64 0,Value.int .i64 0,Value.int .i64 0,Value.int .i64 0,Value.int .i64 0,Value.int .i64 0,Value.int .i64 0,Value.int .i64 0,Value.int .i64 0,Value.int .i64 0] 112)
  rw[show(w.alloc (.cells #[Value.int .i64 0,Value.int .i64 0,Value.int .i64 0,Value.int .i64 0,Value.int .i64 0,Value.int .i64 0,Value.int .i64 0,Value.int .i64 0,Value.int .i64 0,Value.int .i64 0,Value.int .i64 0,Value.int .i64 0,Value.int .i64 0,Value.int .i64 0,Value.int .i64 0,Value.int .i64 0,Value.int .i64 0,Value.int .i64 0,Value.int .i64 0,Value.int .i64 0,Value.int .i64 0,Value.int .i64 0,Value.int .i64 0,Value.int .i64 0,Value.int .i64 0,Value.int .i64 0] 112)).heap.size=w.heap.size+1 by simp]at this
  exact this:TiAt Z (w.heap.size+1) zeK)
 clear hZ
 unfold tiV
 go_enter Tryz.func61,Tryz.ntmps61
 go_wp2
 rw[<-HZ.out]
 go_loopw [2,3] (fun _ k wr=>∃ i:Nat,k=.int .i64 (i:Nat)/\i<=26/\Hid (TiAt wr w.heap.size zeK)/\Hid (TiAt wr (w.heap.size+1) (List.range i++List.replicate (26-i) 0))/\Hid (Below w.heap.size w wr)) (fun _ k _=>26-(match k with|.int _ i=>i.toNat|_=>0))
 case atStart=>exact⟨0,rfl,by omega,T0.out,T1.out,B0.out⟩
 case round=>
  obtain⟨i,rfl,hi,h0,h1,hb⟩:=hrel
  rename World=>W1
  have hG : Hid (GoodK (List.range i ++ List.replicate (26 - i) 0)) := (by
   refine⟨by simp;omega,fun v=>?_⟩
   rw[List.getD_eq_getElem?_getD,List.getElem?_append]
   split
   · rename_i hv
     simp at hv
     rw[List.getElem?_range hv];simp;omega
   · rw[List.getElem?_replicate];split<;>simp:GoodK (List.range i++List.replicate (26-i) 0))
  by_cases hlt:i<26
  · have d0:W1.cell? ⟨w.heap.size+1,i,none⟩=_:=h1.out.cell hG.out hlt
    have f0:W1.frozen? ⟨w.heap.size+1,i,none⟩=false:=h1.out.frozen
    have hl:((i:Int)<26)=True:=eq_true (by omega)
    go_wp2
    go_roundw
    case rel=>
     refine⟨i+1,by go_num,by omega,h0.out.other (by omega),?_,QU0 hb.out (by omega)⟩
     have hs:=h1.out.set (x:=i) (a:=i)
     have e:(List.range i++List.replicate (26-i) 0).set i i=List.range (i+1)++List.replicate (26-(i+1)) 0:=by
      rw[List.set_append_right _ _ (by simp),List.range_succ,List.append_assoc,show 26-i=(26-(i+1))+1 by omega,List.replicate_succ]
      simp
     rw[e]at hs
     exact hs
    case measure=>simp;omega
  · have e26:i=26:=by omega
    have hl:((i:Int)<26)=False:=eq_false (by omega)
    have hx1:TiAt W1 (w.heap.size+1) (List.range 26):=by have:=h1.out;rw[e26]at this;simpa using this
    have HX1:=hidB hx1
    clear e26 hx1 hlt hG h1
    go_wp2_with (first
     |(refine wpList_load_row rfl 112 _ rfl (w.heap.size+1) rfl 112 _ (0,0) _ HX1.out Tryz.underlying112 rfl (QJ8 GoodK.first) ?_)
     |(refine wpList_store_row rfl 112 _ _ rfl w.heap.size _ rfl rfl 112 _ h0.out (QJ8 GoodK.first) (by rw[QK2 GoodK.first,QK2 Qf2]) (QC7 _) ?_))
    refine bodyPost_ret (v:=.agg (tiA (List.range 26))) ?_ rfl ⟨rfl,QJ5 hb.out (Nat.le_refl _)⟩
    exact results_cell_row rfl _ _ w.heap.size 112 _ (0,0) _ rfl (h0.out.row (U:=List.range 26)) Tryz.underlying112 rfl (QJ8 GoodK.first)
end Go.Proofs.YtookanmeflbdlaaGreatDoor.Poly
/- Polynomials at work that are written out; terms.Of; the walks of bracket.rings and bracket.curls. -/
namespace Go.Proofs.YtookanmeflbdlaaGreatDoor.Poly
open Go.RowKit Go.Maps
set_option maxHeartbeats 4000000
set_option maxRecDepth 100000
theorem ZA5 (b off cap : Nat) (l : List (Int × Int)) (K : Nat) (w : World) (hm : mayB l = true) (hKK : ∀ k, k < l.length → -(K : Int) ≤ (l.getD k (0, 0)).1 ∧ (l.getD k (0, 0)).1 ≤ (K : Int)) (hbw : b < w.heap.size) (hT : TermsAt w b off l) :
    Calls Tryz.prog 49 #[.slice (some ⟨b,off,none⟩) l.length cap] w fun e w'=>∃ D:DataW Unit,e=.returned (.map (some w.heap.size))/\w'.ownsMap Tryz.prog 3 (plainElem Tryz.prog 3) w.heap.size l.length D/\(∀ x,coefOf D x=coefL l x)/\QZ4 D (K:Int)/\Below w.heap.size w w':=by
 have hl64:=((may_iff l).1 hm).1
 have HM:=hidB hm
 have HT:=hidB hT
 have hmm:=ZX4 l.length
 have HKK:=hidB hKK
 clear hm hT hKK
 go_enter Tryz.func49,Tryz.ntmps49
 go_wp2
 go_loopw [11] (fun i wr=>∃ (k:Nat) (D:DataW Unit),k<=l.length/\i=.int .i64 k/\wr.ownsMap Tryz.prog 3 (plainElem Tryz.prog 3) w.heap.size k D/\Below w.heap.size w wr/\Hid (∀ x,coefOf D x=coefL (l.take k) x)/\Hid (QZ4 D (K:Int))) (fun i _=>l.length-(intOf i).toNat)
 case atStart=>exact⟨0,.map [],Nat.zero_le _,rfl,World.ownsMap_made _ _ _ _,(Below.refl _ _).alloc (Nat.le_refl _) _,fun x=>coefOf_none rfl,fun x hx=>by cases hx⟩
 case round=>
  obtain⟨k,D,hk,rfl,hown,hb,hD,hK⟩:=hrel
  by_cases hlt:k<l.length
  · have c0:=bcell hb hbw (HT.out k hlt).1
    have c1:=bcell hb hbw (HT.out k hlt).2
    have hok:=(okB_iff l k).1 (((may_iff l).1 HM.out).2 k hlt)
    have ok2:=HKK.out k hlt
    have hsz:=hb.size
    have hbr:b<wr.heap.size:=Nat.lt_of_lt_of_le hbw hsz
    have HS0:=QH0 l k hlt
    generalize he:(l.getD k (0,0)).1=e at c0 hok HS0 ok2
    generalize hc:(l.getD k (0,0)).2=c at c1 hok HS0
    have HS:=hidB HS0
    have HB:Hid (∀ x,-64000000<=coefL (l.take k) x/\coefL (l.take k) x<=64000000):=fun x=>by
     have:=XA1 (l.take k) 1000000 x (fun t ht=>(XG5 HM.out t (List.mem_of_mem_take ht)).2.2) (by decide)
     have hl:(l.take k).length<=64:=by simp;omega
     omega
    have HK2:=hidB ok2
    clear he hc HS0 ok2
    obtain⟨o1,o2,o3,o4,o5,-⟩:=hok
    clear o5
    have hBlt:=hown.lt
    go_wp2_with (first
     |(at_lookup;refine wpList_lookup_own_int _ rfl _ _ 58 rfl 3 3 .i64 law3 Tryz.underlying58 Tryz.underlying3 (zero3 _) w.heap.size k _ rfl (hown.alloc _) _ _ rfl (keyOf_int_mk Tryz.underlying3 (WalkArith.wf_i64 (by omega))) ?_;intro c' hat hwc;refine Hid.out ?_))
    refine Lib.hid ?_
    have hc':coefL (l.take k) e=c':=by rw[<-hD.out,coefOf_look hat]
    have hbd:=HB.out e
    rw[hc']at hbd
    have HC':Hid (coefL (l.take k) e=c'):=hc'
    have hdm:=hown.isMap
    clear hat hwc hc'
    go_wp2_with (first
     |(at_mapUpdate;refine wpList_mapUpdate_own _ rfl _ _ _ 58 rfl 3 3 law3 Tryz.underlying58 _ w.heap.size k _ rfl (hown.alloc _) (by unfold maxLen;omega) _ _ _ rfl rfl (keyOf_int_mk Tryz.underlying3 (WalkArith.wf_i64 (by omega))) _ [] (plainElem_int Tryz.underlying3 (WalkArith.wf_i64 (by omega))) ?_;intro w2 hown2 hg2;go_frame))
    go_roundw
    case rel=>
     refine⟨k+1,_,by omega,by go_num,hown2,(hb.alloc hsz _).grown hg2 (by simp;omega) (fun j hj=>by cases hj;exact Nat.le_refl _),fun x=>?_,QV6 hK.out HK2.out.1 HK2.out.2 _⟩
     rw[coefOf_put hdm,HS.out]
     by_cases hx:e=x
     · rw[if_pos hx,if_pos hx,<-hx,HC'.out]
     · rw[if_neg hx,if_neg hx,hD.out];omega
    case measure=>simp[intOf];omega
  · obtain rfl:k=l.length:=by omega
    have htake:l.take l.length=l:=List.take_of_length_le (Nat.le_refl _)
    have hD2:=hD.out
    rw[htake]at hD2
    have HD2:Hid _:=hD2
    clear hD hD2 htake
    go_wp2
    go_ret
    exact⟨D,rfl,hown,HD2.out,hK.out,hb⟩
theorem mkW (w:World):(Instr.makeMap 58 none).run Tryz.prog w=.ok (.map (some w.heap.size)) (w.alloc (.map #[] 0)):=rfl
theorem Qq8 (k c y:Int):coefL [(k,c)] y=if k=y then c else 0:=by
 simp only[coefL];omega
theorem Xq6 (W : World) (k c : Int) (K : Nat) (hk : k.natAbs ≤ K) (hK : K ≤ 900) (hc : c = 1 ∨ c = -1) :
    ∃ w2,(Instr.mapUpdate 58 (.map (some W.heap.size)) (.int .i64 k) (.int .i64 c)).run Tryz.prog (W.alloc (.map #[] 0))=.ok () w2/\WkV w2 w2.heap.size (.map (some W.heap.size)) 1 K (coefL [(k,c)])/\Below W.heap.size W w2:=by
 have h0:(W.alloc (.map #[] 0)).ownsMap Tryz.prog 3 (plainElem Tryz.prog 3) W.heap.size 0 (.map []:DataW Unit):=World.ownsMap_made _ _ _ _
 obtain⟨w2,hins,hown,hg⟩:=h0.update law3 Tryz.underlying58 (by unfold maxLen;omega) (keyOf_int_mk Tryz.underlying3 (WalkArith.wf_i64 (n:=k) (by omega))) (plainElem_int Tryz.underlying3 (WalkArith.wf_i64 (n:=c) (by omega)))
 have hb:Below W.heap.size W w2:=((Below.refl _ _).alloc (Nat.le_refl _) _).grown hg (by simp) (fun j hj=>by cases hj;exact Nat.le_refl _)
 refine⟨w2,hins,Or.inr ⟨_,_,rfl,hown.lt,hown,QV6 (fun x hx=>by cases hx) (by omega) (by omega) _,fun y=>?_⟩,hb⟩
 rw[coefOf_put h0.isMap,Qq8]
 split
 · rfl
 · exact coefOf_none rfl
structure RingAt (W:World):Prop where
 r0:W.cell? ⟨0,0,none⟩=some (.int .i64 (-2))
 r1:W.cell? ⟨0,1,none⟩=some (.int .i64 (-1))
 r2:W.cell? ⟨0,2,none⟩=some (.int .i64 2)
 r3:W.cell? ⟨0,3,none⟩=some (.int .i64 (-1))
theorem RingAt.lt {W:World} (h:RingAt W):0<W.heap.size:=by
 have h0:=h.r0
 unfold World.cell? at h0
 cases hh:W.heap[0]? with
 |none=>rw[hh]at h0;simp at h0
 |some o=>exact(Array.getElem?_eq_some_iff.1 hh).1
theorem RingAt.on {W W':World} (h:RingAt W) {B:Nat} (hb:Below B W W') (hB:0<B):RingAt W':=⟨bcell hb hB h.r0,bcell hb hB h.r1,bcell hb hB h.r2,bcell hb hB h.r3⟩
theorem RingAt.any {W W':World} (h:RingAt W) (hb:Below W.heap.size W W'):RingAt W':=h.on hb h.lt
theorem Zk8 (f:Int->Int):prodL [(-2,-1),(2,-1)] f=dlA f:=by
 funext y
 simp only[prodL,dlA]
 rw[show y - -2=y+2 by omega];omega
theorem ZV4 (y:Int):coefL [(0,1)] y=QU9 y:=by
 rw[Qq8];unfold QU9
 by_cases h:y=0
 · rw[if_pos h,if_pos h.symm]
 · rw[if_neg h,if_neg (fun e=>h e.symm)]
theorem WkV.coef {w:World} {B:Nat} {v:Value} {n K:Nat} {f g:Int->Int} (h:WkV w B v n K f) (e:∀ y,f y=g y):WkV w B v n K g:=by
 rw[<-show f=g from funext e];exact h
theorem ZK1 (y:Int):(coefL [((-2:Int),(-1:Int)),(2,-1)] y).natAbs<=1:=by
 simp only[coefL]
 by_cases h : -2=y
 · rw[if_pos h,if_neg (by omega)];decide
 · rw[if_neg h];split<;>decide
theorem XX4 (n : Nat) (w : World) (hn : n ≤ 16) (hR : RingAt w) :
    Calls Tryz.prog 62 #[.int .i64 (n:Nat)] w fun e w'=>∃ c,e=.returned (.map (some c))/\w.heap.size<=c/\WkV w' w'.heap.size (.map (some c)) (2*(2*n)+1) (2*n) (dlN n QU9)/\Below w.heap.size w w':=by
 have hlt:=hR.lt
 have hmm:=mkW
 obtain⟨w2,hins,hwk,hb2⟩:=Xq6 w 0 1 0 (by decide) (by decide) (Or.inl rfl)
 have HWK:=hidB (hwk.coef ZV4)
 have HB2:=hidB hb2
 have HR:=hidB hR
 have r0:=hR.r0
 have r1:=hR.r1
 have r2:=hR.r2
 have r3:=hR.r3
 have hs2:=hwk
 clear hR hb2 hwk hs2
 go_enter Tryz.func62,Tryz.ntmps62
 go_wp2
 obtain⟨Z,hZ⟩:∃ Z,Z=w2.alloc (.cells #[.int .i64 (-2),.int .i64 (-1),.int .i64 2,.int .i64 (-1)] 140):=⟨_,rfl⟩
 rw[<-hZ]
 have hbZ:Below w2.heap.size w2 Z:=by rw[hZ];exact(Below.refl _ _).alloc (Nat.le_refl _) _
 have HBZ:=hidB (HB2.out.trans (hbZ.mono HB2.out.size))
 have HWZ:=hidB ((HWK.out.on hbZ).mono hbZ.size (Nat.le_refl _) (Nat.le_refl _))
 have HT:=hidB (show Z.heap[w2.heap.size]?=some (.cells #[.int .i64 (-2),.int .i64 (-1),.int .i64 2,.int .i64 (-1)] 140 (0,0)) by rw[hZ,heap_alloc_new])
 have hs2:w.heap.size<=w2.heap.size:=HB2.out.size
 clear hZ hbZ HWK HB2 hins r0 r1 r2 r3
 generalize w2.heap.size=g at*
 go_loopw [4,9] (fun v i wr=>∃ k c:Nat,i=.int .i64 (k:Nat)/\k<=n/\v=.map (some c)/\w.heap.size<=c/\Hid (WkV wr wr.heap.size (.map (some c)) (2*(2*k)+1) (2*k) (dlN k QU9))/\Hid (wr.heap[g]?=some (.cells #[.int .i64 (-2),.int .i64 (-1),.int .i64 2,.int .i64 (-1)] 140 (0,0)))/\Hid (Below w.heap.size w wr)) (fun _ i _=>n-(intOf i).toNat)
 case atStart=>exact⟨0,w.heap.size,rfl,by omega,rfl,Nat.le_refl _,HWZ.out,HT.out,HBZ.out⟩
 case round=>
  obtain⟨k,c,rfl,hk,rfl,hc,hW,hT,hb⟩:=hrel
  clear HWZ HT HBZ
  rename World=>W1
  by_cases hlt:k<n
  · have hl:((k:Int)<(n:Int))=True:=eq_true (by omega)
    have hgl:g<W1.heap.size:=(Array.getElem?_eq_some_iff.1 hT.out).1
    have HTM : Hid (TermsAt W1 g 0 [(-2, -1), (2, -1)]) := (fun i hi => by
     have hi2:i<2:=hi
     unfold World.cell?
     rw[hT.out]
     match i,hi2 with
     |0,_=>exact⟨rfl,rfl⟩
     |1,_=>exact⟨rfl,rfl⟩:TermsAt W1 g 0 [(-2,-1),(2,-1)])
    have HC := ZA5 g 0 2 [(-2, -1), (2, -1)] 2 W1 (by decide) (fun i hi => by
     have hi2:i<2:=hi
     match i,hi2 with
     |0,_=>decide
     |1,_=>decide) hgl HTM.out
    have HC2:=QQ2 HC
    clear HC
    go_wp2_with (first
     |(go_at_call 49;refine HC2.out.mono ?_;rintro e9 w9 ⟨D9,rfl,ho9,hc9,hk9,hb9⟩;refine Hid.out ?_))
    refine Lib.hid ?_
    have hl9:=ho9.lt
    have HQ:Hid (WkV w9 w9.heap.size (.map (some W1.heap.size)) 2 2 (coefL [(-2,-1),(2,-1)])):=Or.inr ⟨_,D9,rfl,hl9,ho9,hk9,hc9⟩
    have HP:=hidB ((hW.out.on hb9).mono hb9.size (Nat.le_refl _) (Nat.le_refl _))
    have HTI := QY1 (.map (some c)) (.map (some W1.heap.size)) (2 * (2 * k) + 1) 2 (2 * k) 2 (2 ^ k) 1 [(-2, -1), (2, -1)] (dlN k QU9) _ w9 (by omega) (by omega) (by omega) (by
     have h16:2 ^ k<=2 ^ 16:=Nat.pow_le_pow_right (by omega) (by omega)
     have:=Nat.mul_le_mul (show 2*(2*k)+1<=100 by omega) (show 2 ^ k*1<=65536 by omega)
     omega) (fun y=>by have:=ZX7 Kq2 k y;omega) (fun y=>ZK1 y) HP.out HQ.out (by simp) (fun y=>rfl)
    have HTI2:=QQ2 HTI
    have HT9:=hidB ((hb9.block g hgl).trans hT.out)
    have HB9:=hidB (hb.out.trans (hb9.mono hb.out.size))
    have hs9:=HB9.out.size
    have hg9:g<w9.heap.size:=(Array.getElem?_eq_some_iff.1 HT9.out).1
    clear HTI ho9 hc9 hk9 hb9 hl9 HQ HP
    go_wp2_with (first
     |(go_at_call 22;refine HTI2.out.mono ?_;rintro e8 w8 ⟨rfl,hw8,hb8⟩;refine Hid.out ?_))
    refine Lib.hid ?_
    have HW8:=QQ2 hw8
    clear hw8
    go_wp2
    go_roundw
    case rel=>
     refine⟨k+1,w9.heap.size,by go_num,by omega,rfl,hs9,?_,(hb8.block g hg9).trans HT9.out,HB9.out.trans (hb8.mono hs9)⟩
     have:=HW8.out
     rw[Zk8]at this
     exact this
    case measure=>simp[intOf];omega
  · have hl:((k:Int)<(n:Int))=False:=eq_false (by omega)
    have e:k=n:=by omega
    subst e
    clear hlt
    go_wp2
    go_ret
    exact⟨c,rfl,hc,hW.out,hb.out⟩
theorem KX8 (p : Int) (w : World) (hp : p.natAbs ≤ 16) :
    Calls Tryz.prog 39 #[.int .i64 p] w fun e w'=>∃ c,e=.returned (.map (some c))/\WkV w' w'.heap.size (.map (some c)) 1 48 (coefL [(3*p,if p%2=0 then 1 else -1)])/\Below w.heap.size w w':=by
 have hmm:=mkW
 by_cases he:p.tmod 2=0
 · have hd:(p.tmod 2 != 0)=false:=by rw[he];rfl
   have hm2:p%2=0:=by have:=Int.tmod_def p 2;omega
   obtain⟨w2,hins,hwk,hb2⟩:=Xq6 w (3*p) 1 48 (by omega) (by decide) (Or.inl rfl)
   rw[if_pos hm2]
   have HWK:=QQ2 hwk
   clear hwk hm2
   go_enter Tryz.func39,Tryz.ntmps39
   go_wp2
   go_ret
   exact⟨_,rfl,HWK.out,hb2⟩
 · have hd:(p.tmod 2 != 0)=true:=by rw[bne_iff_ne];exact he
   have hm2:¬ p%2=0:=fun h=>he (Int.tmod_eq_zero_of_dvd (Int.dvd_of_emod_eq_zero h))
   obtain⟨w2,hins,hwk,hb2⟩:=Xq6 w (3*p) (-1) 48 (by omega) (by decide) (Or.inr rfl)
   rw[if_neg hm2]
   have HWK:=QQ2 hwk
   clear hwk hm2 he
   go_enter Tryz.func39,Tryz.ntmps39
   go_wp2
   go_ret
   exact⟨_,rfl,HWK.out,hb2⟩
end Go.Proofs.YtookanmeflbdlaaGreatDoor.Poly
/- The walk of bracket.sums.add. -/
namespace Go.Proofs.YtookanmeflbdlaaGreatDoor.Poly
open Go.RowKit Go.Maps
set_option maxHeartbeats 16000000
set_option maxRecDepth 100000
theorem arF {g a0 a1 a2 a3:Nat} {X:World} (h:X.heap[g+1]?=some (.cells #[.int .i64 (a0:Nat),.int .i64 (a1:Nat),.int .i64 (a2:Nat),.int .i64 (a3:Nat)] 116 (0,0))):X.cell? ⟨g+1,0,none⟩=some (.int .i64 (a0:Nat))/\X.cell? ⟨g+1,1,none⟩=some (.int .i64 (a1:Nat))/\X.cell? ⟨g+1,2,none⟩=some (.int .i64 (a2:Nat))/\X.cell? ⟨g+1,3,none⟩=some (.int .i64 (a3:Nat)):=⟨QQ0 h rfl,QQ0 h rfl,QQ0 h rfl,QQ0 h rfl⟩
def rgL (m:Nat):List (Int×Int):=if m=0 then [(0,1)] else if m=1 then [(-2,-1),(2,-1)] else [(-4,1),(0,2),(4,1)]
theorem QH9 {m:Nat} (h:m<=2) (f:Int->Int):prodL (rgL m) f=dlN m f:=by
 match m,h with
 |0,_=>funext y;show 1*f (y-0)+0=f y;rw[Int.sub_zero];omega
 |1,_=>exact Zk8 f
 |2,_=>
  funext y
  show 1*f (y - -4)+(2*f (y-0)+(1*f (y-4)+0)) = - (- f (y+2+2)-f (y+2-2))-(- f (y-2+2)-f (y-2-2))
  rw[show y - -4=y+4 by omega,show y+2+2=y+4 by omega,show y+2-2=y by omega,show y-2+2=y by omega,show y-2-2=y-4 by omega,Int.sub_zero]
  omega
theorem ZF1 (l:List (Int×Int)) (y:Int):prodL l QU9 y=coefL l y:=by
 induction l with
 |nil=>rfl
 |cons t l ih=>
  show t.2*QU9 (y-t.1)+prodL l QU9 y=(if t.1=y then t.2 else 0)+coefL l y
  rw[ih]
  unfold QU9
  by_cases e:t.1=y
  · rw[if_pos e,if_pos (by omega)];omega
  · rw[if_neg e,if_neg (by omega)];omega
theorem Qj8 {m:Nat} (h:m<=2) (y:Int):dlN m QU9 y=coefL (rgL m) y:=by
 rw[<-QH9 h,ZF1]
theorem ZQ6 {m:Nat} (h:m<=2) (y:Int):(dlN m QU9 y).natAbs<=2:=by
 rw[Qj8 h]
 match m,h with
 |0,_=>show(coefL [(0,1)] y).natAbs<=2;rw[Qq8];split<;>decide
 |1,_=>exact Nat.le_trans (ZK1 y) (by decide)
 |2,_=>
  show((if(-4:Int)=y then(1:Int) else 0)+((if(0:Int)=y then(2:Int) else 0)+((if(4:Int)=y then(1:Int) else 0)+0))).natAbs<=2
  split<;>split<;>split<;>omega
theorem setRow_other {W:World} {g g':Nat} {cs:Array Value} (h:g≠g'):(W.setRow g' cs).heap[g]?=W.heap[g]?:=by
 simp only[World.setRow,Array.getElem?_modify]
 rw[if_neg (Ne.symm h)]
theorem QG4 {w W W':World} {b:Nat} (h:Below w.heap.size w W) (hg:W.grownBy W' (some b)) (_hb:b<w.heap.size):w.grownBy W' (some b):=
 ⟨hg.os.trans h.os,hg.tape.trans h.tape,hg.output.trans h.output,Nat.le_trans h.size hg.size,fun i hi hne=>(hg.block i (Nat.lt_of_lt_of_le hi h.size) hne).trans (h.block i hi)⟩
theorem wrap_small {m:Nat} (h:m<=100):IntKind.i64.wrap (m:Int)=(m:Int):=IntWalk.i64_in _ (by omega)
theorem Qd1 {P : Program} {ev : Operand → Value} {o : Oper} {w : World} (ty : TypeId) (x : Operand) (ho : o.op = .load ty x) (g : Nat) (hx : ev x = .pointer (some ⟨g, 0, none⟩)) (t : TypeId) (cs : Array Value) (fr : Nat × Nat) (d : TypeDesc) (hg : w.heap[g]? = some (.cells cs t fr))
    (hu:P.underlying ty=some d) (hd:(match d with|.struct _|.array _ _=>true|_=>false)=true) (hi:(P.info? ty).map (·.size)=some cs.size):(execOp ev o).run P w=.ok (.value (.agg cs)) w:=by
 unfold execOp
 simp only[ho,hx,Instr.loadAt,Instr.sureAddr,Sem.run_bind,Sem.run_pure,Result.andThen_ok,run_loadVar_row w g t ty cs fr d hg hu hd hi]
theorem JF8 (L b n K M J Hf : Nat) (V : List Nat → Int → Int) (D : DataW Unit) (T : List Nat) (f : Int → Int) (c a0 a1 a2 a3 : Nat) (w : World) (hT : GoodK T) (h0 : a0 < 26) (h1 : a1 < 26) (h2 : a2 < 26) (h3 : a3 < 26) (hR : RingAt w) (hL : L ≤ w.heap.size) (hbL : b < L) (hn : n < 100000000)
    (hK:J+4<=K) (hK2:K<=900) (hM:M<=10000) (hS:SumD w L w.heap.size b n K (2*K+1) V D) (hf:WkV w w.heap.size (.map (some c)) M J f) (hH:(2*J+1)*(Hf*2)<=4000000000000000000) (hfb:∀ y,(f y).natAbs<=Hf) (hVb:∀ y,(V (t4 T a0 a1 a2 a3) y).natAbs<=1000000000000000000) (hdb:∀ y,(dlN (c4 T a0 a1 a2 a3) f y).natAbs<=1000000000000000000):
    Calls Tryz.prog 81 #[.map (some b),tiV T,.map (some c),.agg #[.int .i64 (a0:Nat),.int .i64 (a1:Nat),.int .i64 (a2:Nat),.int .i64 (a3:Nat)],.int .i64 0] w fun e w'=>e=.returned (.tuple #[])/\∃ D',SumD w' L w'.heap.size b (n+1) K (2*K+1) (fun U=>if U=t4 T a0 a1 a2 a3 then(fun y=>V U y+dlN (c4 T a0 a1 a2 a3) f y) else V U) D'/\w.grownBy w' (some b)/\(∀ l,keyOf Tryz.prog 112 (tiV (t4 T a0 a1 a2 a3))=some l->Maps.has D' l=true)/\(∀ kl,Maps.has D kl=true->Maps.has D' kl=true):=by
 obtain⟨T1,hT1⟩:∃ X,Qu2 T a0 a1=X:=⟨_,rfl⟩
 obtain⟨T2,hT2⟩:∃ X,Qu2 T1 a2 a3=X:=⟨_,rfl⟩
 obtain⟨n1,hn1⟩:∃ X,XC6 T a0 a1=X:=⟨_,rfl⟩
 obtain⟨n2,hn2⟩:∃ X,XC6 T1 a2 a3=X:=⟨_,rfl⟩
 have e4:t4 T a0 a1 a2 a3=T2:=by unfold t4;rw[hT1,hT2]
 have ec:c4 T a0 a1 a2 a3=n1+n2:=by unfold c4;rw[hn1,hT1,hn2]
 have hc2:n1+n2<=2:=by rw[<-ec];exact XD5 _ _ _ _ _
 obtain⟨m,hm⟩:∃ X,n1+n2=X:=⟨_,rfl⟩
 rw[e4]at hVb ⊢
 rw[ec,hm]at hdb ⊢
 rw[hm]at hc2
 have HMM:=QQ2 hm
 clear hm
 have g1:GoodK T1:=by rw[<-hT1];exact hT.tie _ _
 have g2:GoodK T2:=by rw[<-hT2];exact g1.tie _ _
 have HC1:Hid (∀ W,Calls Tryz.prog 93 #[.agg (tiA T),.int .i64 (a0:Nat),.int .i64 (a1:Nat)] W fun e w'=>e=.returned (.tuple #[.agg (tiA T1),.int .i64 (n1:Nat)])/\Below W.heap.size W w'):=fun W=>by rw[<-hT1,<-hn1];exact Qv6 T a0 a1 W hT (by omega) (by omega)
 have HC2:Hid (∀ W,Calls Tryz.prog 93 #[.agg (tiA T1),.int .i64 (a2:Nat),.int .i64 (a3:Nat)] W fun e w'=>e=.returned (.tuple #[.agg (tiA T2),.int .i64 (n2:Nat)])/\Below W.heap.size W w'):=fun W=>by rw[<-hT2,<-hn2];exact Qv6 T1 a2 a3 W g1 (by omega) (by omega)
 clear hT1 hT2 hn1 hn2 e4 ec
 have HT:=QQ2 hT
 have G1:=QQ2 g1
 have G2:=QQ2 g2
 have HR:=QQ2 hR
 have HS:=QQ2 hS
 have HF:=QQ2 hf
 have HFB:=QQ2 hfb
 have HVB:=QQ2 hVb
 have HDB:=QQ2 hdb
 have HH:=QQ2 hH
 have hbw:b<w.heap.size:=by omega
 clear hT g1 g2 hR hS hf hfb hVb hdb hH
 obtain⟨V0,hV0⟩:∃ X,(w.alloc (.cells (tiA T) 112)).alloc (.cells #[.int .i64 (a0:Nat),.int .i64 (a1:Nat),.int .i64 (a2:Nat),.int .i64 (a3:Nat)] 116)=X:=⟨_,rfl⟩
 have B0:=hidB (show Below w.heap.size w V0 by rw[<-hV0];exact((Below.refl _ _).alloc (Nat.le_refl _) _).alloc (by simp) _)
 have T0 : Hid (TiAt V0 w.heap.size T) := (by
  rw[<-hV0];unfold TiAt
  rw[heap_alloc_old _ _ (by simp),heap_alloc_new]:TiAt V0 w.heap.size T)
 have A0 : Hid (V0.heap[w.heap.size + 1]? = some (.cells #[.int .i64 (a0 : Nat), .int .i64 (a1 : Nat), .int .i64 (a2 : Nat), .int .i64 (a3 : Nat)] 116 (0, 0))) := (by
  rw[<-hV0]
  have:=heap_alloc_new (w.alloc (.cells (tiA T) 112)) (.cells #[.int .i64 (a0:Nat),.int .i64 (a1:Nat),.int .i64 (a2:Nat),.int .i64 (a3:Nat)] 116)
  rw[show(w.alloc (.cells (tiA T) 112)).heap.size=w.heap.size+1 by simp]at this
  exact this:V0.heap[w.heap.size+1]?=_)
 have s0:w.heap.size+1<V0.heap.size:=(Array.getElem?_eq_some_iff.1 A0.out).1
 have HV0:=QQ2 hV0
 clear hV0
 have HQ0:Hid (∀ W,Below V0.heap.size V0 W->(fun X:World=>X.cell? ⟨w.heap.size+1,0,none⟩=some (.int .i64 (a0:Nat))/\X.cell? ⟨w.heap.size+1,1,none⟩=some (.int .i64 (a1:Nat))/\X.cell? ⟨w.heap.size+1,2,none⟩=some (.int .i64 (a2:Nat))/\X.cell? ⟨w.heap.size+1,3,none⟩=some (.int .i64 (a3:Nat))) W):=fun W hW=>arF ((hW.block _ s0).trans A0.out)
 have HD0:Hid (Below V0.heap.size V0 V0.drew):=(Below.refl _ _).drew
 unfold tiV
 go_enter Tryz.func81,Tryz.ntmps81
 go_upto_region 1 with(fail)
 rw[HV0.out]
 refine rhd HQ0 HD0.out (fun hHeld=>?_)
 have x1:IntKind.i64.wrap 1=1:=by decide
 have x2:IntKind.i64.wrap 2=2:=by decide
 refine tq 14 1 (h:=?_)
 refine tq 15 2 (h:=?_)
 refine tq 16 3 (h:=?_)
 refine tq 17 4 (h:=?_)
 refine tq 18 5 (h:=?_)
 refine tq 19 6 (h:=?_)
 refine tq 20 7 (h:=?_)
 simp only[List.setIfInBounds_toArray,List.set_cons_succ,List.set_cons_zero]
 clear hHeld x1 x2
 refine rd1 0 ?_
 intro K0 hK0
 refine wp_load_row 112 _ rfl w.heap.size rfl 112 _ (0,0) _ (T0.out.on HD0.out (by omega)) Tryz.underlying112 rfl (QJ8 HT.out) ?_
 refine hK0.out _ _ (HQ0.out _ HD0.out) (fun _=>?_)
 clear hK0 K0
 try simp only[Act.put]
 try simp only[List.getElem_toArray]
 try simp only[List.getElem_cons_succ]
 try simp only[List.getElem_cons_zero]
 try simp only[List.setIfInBounds_toArray,List.set_cons_succ,List.set_cons_zero]
 refine rd1 8 ?_
 intro K0 hK0
 go_simp
 go_wp2_with (go_at_call 93;refine(HC1.out _).mono ?_;rintro e9 w1 ⟨rfl,hb1⟩)
 have HB1:=QQ2 (HD0.out.trans (hb1.mono HD0.out.size))
 clear hb1
 refine hK0.out _ _ (HQ0.out _ HB1.out) (fun hHeld=>?_)
 clear hK0 K0
 try simp only[Act.put]
 try simp only[List.getElem_toArray]
 try simp only[List.getElem_cons_succ]
 try simp only[List.getElem_cons_zero]
 try  refine tq 12 9 (h:=?_)
 refine tq 22 10 (h:=?_)
 refine tq 23 11 (h:=?_)
 simp only[List.setIfInBounds_toArray,List.set_cons_succ,List.set_cons_zero]
 clear hHeld
 have TI1:=hidB (T0.out.on HB1.out (by omega))
 have hX1:TiAt (w1.setRow w.heap.size (tiA T1)) w.heap.size T1:=TI1.out.row
 have hA1:(w1.setRow w.heap.size (tiA T1)).heap[w.heap.size+1]?=_:=(setRow_other (by omega)).trans ((HB1.out.block _ s0).trans A0.out)
 have hB1:Below w.heap.size w (w1.setRow w.heap.size (tiA T1)):=QJ5 (B0.out.trans (HB1.out.mono B0.out.size)) (Nat.le_refl _)
 refine rd1 12 ?_
 intro K0 hK0
 refine wp_store_row 112 _ _ rfl w.heap.size (tiA T1) rfl rfl 112 _ TI1.out (QJ8 G1.out) (by rw[QK2 HT.out,QK2 G1.out]) (QC7 _) ?_
 refine hK0.out _ _ (arF hA1) (fun hHeld=>?_)
 clear hK0 K0
 generalize w1.setRow w.heap.size (tiA T1)=X1 at*
 try simp only[Act.put]
 try simp only[List.getElem_toArray]
 try simp only[List.getElem_cons_succ]
 try simp only[List.getElem_cons_zero]
 try  refine tq 10 13 (h:=?_)
 simp only[List.setIfInBounds_toArray,List.set_cons_succ,List.set_cons_zero]
 refine wpAnyH_done (by kernel_rfl) ?_ _
 clear hHeld
 have HX1:=QQ2 hX1
 have HA1:=QQ2 hA1
 have HBX1:=QQ2 hB1
 have s1:w.heap.size+1<X1.heap.size:=(Array.getElem?_eq_some_iff.1 hA1).1
 clear hX1 hA1 hB1 TI1 HB1 HQ0 HD0 T0 A0 B0 HV0 s0
 have HQ1:Hid (∀ W,Below X1.heap.size X1 W->(fun X:World=>X.cell? ⟨w.heap.size+1,0,none⟩=some (.int .i64 (a0:Nat))/\X.cell? ⟨w.heap.size+1,1,none⟩=some (.int .i64 (a1:Nat))/\X.cell? ⟨w.heap.size+1,2,none⟩=some (.int .i64 (a2:Nat))/\X.cell? ⟨w.heap.size+1,3,none⟩=some (.int .i64 (a3:Nat))) W):=fun W hW=>arF ((hW.block _ s1).trans HA1.out)
 have HD1:Hid (Below X1.heap.size X1 X1.drew):=(Below.refl _ _).drew
 go_upto_region 2 with(fail)
 refine rhd HQ1 HD1.out (fun hHeld=>?_)
 have x2:IntKind.i64.wrap 2=2:=by decide
 have x3:IntKind.i64.wrap 3=3:=by decide
 have x4:IntKind.i64.wrap 4=4:=by decide
 have x0:IntKind.i64.wrap 0=0:=by decide
 have m3:Int.tmod 3 4=3:=by decide
 have m4:Int.tmod 4 4=0:=by decide
 refine tq 26 1 (h:=?_)
 refine tq 27 2 (h:=?_)
 refine tq 28 3 (h:=?_)
 refine tq 29 4 (h:=?_)
 refine tq 30 5 (h:=?_)
 refine tq 31 6 (h:=?_)
 refine tq 32 7 (h:=?_)
 refine tq 33 8 (h:=?_)
 refine tq 34 9 (h:=?_)
 simp only[List.setIfInBounds_toArray,List.set_cons_succ,List.set_cons_zero]
 clear hHeld x2 x3 x4 x0 m3 m4
 refine rd1 0 ?_
 intro K0 hK0
 refine wp_load_row 112 _ rfl w.heap.size rfl 112 _ (0,0) _ (HX1.out.on HD1.out (by omega)) Tryz.underlying112 rfl (QJ8 G1.out) ?_
 refine hK0.out _ _ (HQ1.out _ HD1.out) (fun _=>?_)
 clear hK0 K0
 try simp only[Act.put]
 try simp only[List.getElem_toArray]
 try simp only[List.getElem_cons_succ]
 try simp only[List.getElem_cons_zero]
 try simp only[List.setIfInBounds_toArray,List.set_cons_succ,List.set_cons_zero]
 refine rd1 10 ?_
 intro K0 hK0
 go_simp
 go_wp2_with (go_at_call 93;refine(HC2.out _).mono ?_;rintro e9 w2 ⟨rfl,hb2⟩)
 have HB2:=QQ2 (HD1.out.trans (hb2.mono HD1.out.size))
 clear hb2
 refine hK0.out _ _ (HQ1.out _ HB2.out) (fun hHeld=>?_)
 clear hK0 K0
 try simp only[Act.put]
 try simp only[List.getElem_toArray]
 try simp only[List.getElem_cons_succ]
 try simp only[List.getElem_cons_zero]
 try  refine tq 24 11 (h:=?_)
 refine tq 36 12 (h:=?_)
 refine tq 37 13 (h:=?_)
 simp only[List.setIfInBounds_toArray,List.set_cons_succ,List.set_cons_zero]
 clear hHeld
 have TI2:=hidB (HX1.out.on HB2.out (by omega))
 have hX2:TiAt (w2.setRow w.heap.size (tiA T2)) w.heap.size T2:=TI2.out.row
 have hA2:(w2.setRow w.heap.size (tiA T2)).heap[w.heap.size+1]?=_:=(setRow_other (by omega)).trans ((HB2.out.block _ s1).trans HA1.out)
 have hB2:Below w.heap.size w (w2.setRow w.heap.size (tiA T2)):=QJ5 (HBX1.out.trans (HB2.out.mono HBX1.out.size)) (Nat.le_refl _)
 refine rd1 14 ?_
 intro K0 hK0
 refine wp_store_row 112 _ _ rfl w.heap.size (tiA T2) rfl rfl 112 _ TI2.out (QJ8 G2.out) (by rw[QK2 G1.out,QK2 G2.out]) (QC7 _) ?_
 refine hK0.out _ _ (arF hA2) (fun hHeld=>?_)
 clear hK0 K0
 generalize w2.setRow w.heap.size (tiA T2)=X2 at*
 try simp only[Act.put]
 try simp only[List.getElem_toArray]
 try simp only[List.getElem_cons_succ]
 try simp only[List.getElem_cons_zero]
 try  refine tq 11 15 (h:=?_)
 simp only[List.setIfInBounds_toArray,List.set_cons_succ,List.set_cons_zero]
 refine wpAnyH_done (by kernel_rfl) ?_ _
 have HX2:=QQ2 hX2
 have HBX2:=QQ2 hB2
 have s2:w.heap.size+1<X2.heap.size:=(Array.getElem?_eq_some_iff.1 hA2).1
 clear hHeld hX2 hA2 hB2 TI2 HB2 HQ1 HD1 HX1 HA1 HBX1 s1
 have hS2:=HS.out.on HBX2.out hbw
 obtain⟨v,hv1,hv2⟩:=hS2.look2 G2.out hbw
 have HV1:=QQ2 hv1
 have HQ2:Hid (∀ W,Below X2.heap.size X2 W->(fun X:World=>TiAt X w.heap.size T2) W):=fun W hW=>HX2.out.on hW (by omega)
 have HLK:Hid (∀ W,Below X2.heap.size X2 W->(Instr.lookup 115 (.map (some b)) (.agg (tiA T2)) false).run Tryz.prog W=.ok v W):=fun W hW=>hv2 W (hW.mono (by omega))
 have HS2:=QQ2 hS2
 have HD2:Hid (Below X2.heap.size X2 X2.drew):=(Below.refl _ _).drew
 clear hv1 hv2 hS2
 go_upto_region 3 with(fail)
 refine rhd HQ2 HD2.out (fun hHeld=>?_)
 have x5:IntKind.i64.wrap ((n1:Int)+(n2:Int))=(m:Int):=by rw[show((n1:Int)+(n2:Int))=(m:Int) by have:=HMM.out;omega];exact wrap_small (by omega)
 refine tq 38 0 (h:=?_)
 refine tq 39 1 (hy:=fun W hW=>Qd1 112 _ rfl w.heap.size rfl 112 _ (0,0) _ hW Tryz.underlying112 rfl (QJ8 G2.out)) (h:=?_)
 refine tq 40 2 (h:=?_)
 refine tq 41 3 (hy:=fun W hW=>Qd1 112 _ rfl w.heap.size rfl 112 _ (0,0) _ hW Tryz.underlying112 rfl (QJ8 G2.out)) (h:=?_)
 refine tq 43 5 (h:=?_)
 refine tq 44 6 (h:=?_)
 refine tq 45 7 (h:=?_)
 refine tq 46 8 (h:=?_)
 simp only[List.setIfInBounds_toArray,List.set_cons_succ,List.set_cons_zero]
 clear hHeld x5
 have HRX:=hidB (HR.out.any (HBX2.out.trans (HD2.out.mono HBX2.out.size)))
 have HG:=QQ2 (XX4 m X2.drew (by omega) HRX.out)
 refine rd2 4 9 ?_ ?_
 · intro K0 hK0
   have hlk:=HLK.out _ HD2.out
   go_simp
   refine hK0.out _ _ (HQ2.out _ HD2.out) (fun _=>?_)
   clear hK0 K0 hlk
   try simp only[Act.put]
   try simp only[List.getElem_toArray]
   try simp only[List.getElem_cons_succ]
   try simp only[List.getElem_cons_zero]
   try simp only[List.setIfInBounds_toArray,List.set_cons_succ,List.set_cons_zero]
   refine rd1 9 ?_
   intro K0 hK0
   go_simp
   go_wp2_with (go_at_call 62;refine HG.out.mono ?_;rintro e9 w3 ⟨c3,rfl,hc3,hw3,hb3⟩)
   have HB3:=QQ2 (HD2.out.trans (hb3.mono HD2.out.size))
   have HW3:=QQ2 hw3
   clear hb3 hw3
   refine hK0.out _ _ (HQ2.out _ HB3.out) (fun _=>?_)
   clear hK0 K0
   try simp only[Act.put]
   try simp only[List.getElem_toArray]
   try simp only[List.getElem_cons_succ]
   try simp only[List.getElem_cons_zero]
   try simp only[List.setIfInBounds_toArray,List.set_cons_succ,List.set_cons_zero]
   have B3:=hidB (HBX2.out.trans (HB3.out.mono HBX2.out.size))
   have HTM:=QQ2 (QY1 (.map (some c)) (.map (some c3)) M (2*(2*m)+1) J (2*m) Hf 2 (rgL m) f (dlN m QU9) w3 (by omega) (by omega) (by omega) HH.out HFB.out (ZQ6 hc2) ((HF.out.on B3.out).mono B3.out.size (Nat.le_refl _) (Nat.le_refl _)) HW3.out (by simp) (Qj8 hc2))
   refine rd1 10 ?_
   intro K0 hK0
   go_simp
   go_wp2_with (go_at_call 22;refine HTM.out.mono ?_;rintro e9 w4 ⟨rfl,hw4,hb4⟩)
   have HB4:=QQ2 (HB3.out.trans (hb4.mono HB3.out.size))
   rw[QH9 hc2]at hw4
   have HW4:=QQ2 (hw4.mono (Nat.le_refl _) (show 2*(J+2*m)+1<=2*K+1 by omega) (show J+2*m<=K by omega))
   clear hb4 hw4
   refine hK0.out _ _ (HQ2.out _ HB4.out) (fun _=>?_)
   clear hK0 K0
   try simp only[Act.put]
   try simp only[List.getElem_toArray]
   try simp only[List.getElem_cons_succ]
   try simp only[List.getElem_cons_zero]
   try simp only[List.setIfInBounds_toArray,List.set_cons_succ,List.set_cons_zero]
   have B4:=hidB (HBX2.out.trans (HB4.out.mono HBX2.out.size))
   have hwv:=(HV1.out.on (HB4.out.mono (by omega:w.heap.size<=X2.heap.size))).mono B4.out.size (Nat.le_refl _) (Nat.le_refl _)
   have HPL:=QQ2 (QA0 v (.map (some w3.heap.size)) (2*K+1) (2*K+1) K (V T2) (dlN m f) w4 (by omega) (by omega) hK2 HVB.out HDB.out hwv HW4.out (by simp))
   clear hwv
   refine rd1 11 ?_
   intro K0 hK0
   go_simp
   go_wp2_with (go_at_call 82;refine HPL.out.mono ?_;rintro e9 w5 ⟨rfl,hw5,hb5⟩)
   have HB5:=QQ2 (HB4.out.trans (hb5.mono HB4.out.size))
   have HW5:=QQ2 hw5
   clear hb5 hw5 HPL
   refine hK0.out _ _ (HQ2.out _ HB5.out) (fun _=>?_)
   clear hK0 K0
   try simp only[Act.put]
   try simp only[List.getElem_toArray]
   try simp only[List.getElem_cons_succ]
   try simp only[List.getElem_cons_zero]
   try simp only[List.setIfInBounds_toArray,List.set_cons_succ,List.set_cons_zero]
   have B5:=hidB (HBX2.out.trans (HB5.out.mono HBX2.out.size))
   have hS5:=(HS.out.on B5.out hbw).mono (Nat.le_refl _) B5.out.size (Nat.le_refl _) (Nat.le_refl _) (Nat.le_refl _)
   obtain⟨w6,D6,hrun,hS6,hg6,hk6,hm6⟩:=hS5.put G2.out hn hbL (c:=w4.heap.size) (f:=fun y=>V T2 y+dlN m f y) (Nat.le_trans hL B4.out.size) HW5.out
   unfold tiV at hrun
   have HS6:=QQ2 hS6
   have HG6:=QQ2 hg6
   have HK6:=QQ2 hk6
   have HM6:=QQ2 hm6
   have ht6:TiAt w6 w.heap.size T2:=(hg6.block _ (by have:=B5.out.size;have:=(HQ2.out _ HB5.out).lt;omega) (fun e=>by have:=Option.some.inj e;omega)).trans (HQ2.out _ HB5.out)
   have HT6:=QQ2 ht6
   clear hS5 hS6 hg6 hk6 hm6 ht6
   refine rd1 12 ?_
   intro K0 hK0
   go_simp
   refine hK0.out _ _ HT6.out (fun _=>?_)
   clear hK0 K0
   refine wpAnyH_done (by kernel_rfl) ?_ _
   go_wp2
   exact bodyPost_end (results_none rfl _ _ _) rfl ⟨rfl, D6, HS6.out.congr (fun U _ => by
    by_cases e:U=T2
    · rw[if_pos e,if_pos e,e]
    · rw[if_neg e,if_neg e]),QG4 B5.out HG6.out hbw,HK6.out,HM6.out⟩
 · intro K0 hK0
   go_simp
   go_wp2_with (go_at_call 62;refine HG.out.mono ?_;rintro e9 w3 ⟨c3,rfl,hc3,hw3,hb3⟩)
   have HB3:=QQ2 (HD2.out.trans (hb3.mono HD2.out.size))
   have HW3:=QQ2 hw3
   clear hb3 hw3
   refine hK0.out _ _ (HQ2.out _ HB3.out) (fun _=>?_)
   clear hK0 K0
   try simp only[Act.put]
   try simp only[List.getElem_toArray]
   try simp only[List.getElem_cons_succ]
   try simp only[List.getElem_cons_zero]
   try simp only[List.setIfInBounds_toArray,List.set_cons_succ,List.set_cons_zero]
   have B3:=hidB (HBX2.out.trans (HB3.out.mono HBX2.out.size))
   have HTM:=QQ2 (QY1 (.map (some c)) (.map (some c3)) M (2*(2*m)+1) J (2*m) Hf 2 (rgL m) f (dlN m QU9) w3 (by omega) (by omega) (by omega) HH.out HFB.out (ZQ6 hc2) ((HF.out.on B3.out).mono B3.out.size (Nat.le_refl _) (Nat.le_refl _)) HW3.out (by simp) (Qj8 hc2))
   refine rd2 4 10 ?_ ?_
   · intro K0 hK0
     have hlk:=HLK.out _ HB3.out
     go_simp
     refine hK0.out _ _ (HQ2.out _ HB3.out) (fun _=>?_)
     clear hK0 K0 hlk
     try simp only[Act.put]
     try simp only[List.getElem_toArray]
     try simp only[List.getElem_cons_succ]
     try simp only[List.getElem_cons_zero]
     try simp only[List.setIfInBounds_toArray,List.set_cons_succ,List.set_cons_zero]
     refine rd1 10 ?_
     intro K0 hK0
     go_simp
     go_wp2_with (go_at_call 22;refine HTM.out.mono ?_;rintro e9 w4 ⟨rfl,hw4,hb4⟩)
     have HB4:=QQ2 (HB3.out.trans (hb4.mono HB3.out.size))
     rw[QH9 hc2]at hw4
     have HW4:=QQ2 (hw4.mono (Nat.le_refl _) (show 2*(J+2*m)+1<=2*K+1 by omega) (show J+2*m<=K by omega))
     clear hb4 hw4
     refine hK0.out _ _ (HQ2.out _ HB4.out) (fun _=>?_)
     clear hK0 K0
     try simp only[Act.put]
     try simp only[List.getElem_toArray]
     try simp only[List.getElem_cons_succ]
     try simp only[List.getElem_cons_zero]
     try simp only[List.setIfInBounds_toArray,List.set_cons_succ,List.set_cons_zero]
     have B4:=hidB (HBX2.out.trans (HB4.out.mono HBX2.out.size))
     have hwv:=(HV1.out.on (HB4.out.mono (by omega:w.heap.size<=X2.heap.size))).mono B4.out.size (Nat.le_refl _) (Nat.le_refl _)
     have HPL:=QQ2 (QA0 v (.map (some w3.heap.size)) (2*K+1) (2*K+1) K (V T2) (dlN m f) w4 (by omega) (by omega) hK2 HVB.out HDB.out hwv HW4.out (by simp))
     clear hwv
     refine rd1 11 ?_
     intro K0 hK0
     go_simp
     go_wp2_with (go_at_call 82;refine HPL.out.mono ?_;rintro e9 w5 ⟨rfl,hw5,hb5⟩)
     have HB5:=QQ2 (HB4.out.trans (hb5.mono HB4.out.size))
     have HW5:=QQ2 hw5
     clear hb5 hw5 HPL
     refine hK0.out _ _ (HQ2.out _ HB5.out) (fun _=>?_)
     clear hK0 K0
     try simp only[Act.put]
     try simp only[List.getElem_toArray]
     try simp only[List.getElem_cons_succ]
     try simp only[List.getElem_cons_zero]
     try simp only[List.setIfInBounds_toArray,List.set_cons_succ,List.set_cons_zero]
     have B5:=hidB (HBX2.out.trans (HB5.out.mono HBX2.out.size))
     have hS5:=(HS.out.on B5.out hbw).mono (Nat.le_refl _) B5.out.size (Nat.le_refl _) (Nat.le_refl _) (Nat.le_refl _)
     obtain⟨w6,D6,hrun,hS6,hg6,hk6,hm6⟩:=hS5.put G2.out hn hbL (c:=w4.heap.size) (f:=fun y=>V T2 y+dlN m f y) (Nat.le_trans hL B4.out.size) HW5.out
     unfold tiV at hrun
     have HS6:=QQ2 hS6
     have HG6:=QQ2 hg6
     have HK6:=QQ2 hk6
     have HM6:=QQ2 hm6
     have ht6:TiAt w6 w.heap.size T2:=(hg6.block _ (by have:=B5.out.size;have:=(HQ2.out _ HB5.out).lt;omega) (fun e=>by have:=Option.some.inj e;omega)).trans (HQ2.out _ HB5.out)
     have HT6:=QQ2 ht6
     clear hS5 hS6 hg6 hk6 hm6 ht6
     refine rd1 12 ?_
     intro K0 hK0
     go_simp
     refine hK0.out _ _ HT6.out (fun _=>?_)
     clear hK0 K0
     refine wpAnyH_done (by kernel_rfl) ?_ _
     go_wp2
     exact bodyPost_end (results_none rfl _ _ _) rfl ⟨rfl, D6, HS6.out.congr (fun U _ => by
      by_cases e:U=T2
      · rw[if_pos e,if_pos e,e]
      · rw[if_neg e,if_neg e]),QG4 B5.out HG6.out hbw,HK6.out,HM6.out⟩
   · intro K0 hK0
     go_simp
     go_wp2_with (go_at_call 22;refine HTM.out.mono ?_;rintro e9 w4 ⟨rfl,hw4,hb4⟩)
     have HB4:=QQ2 (HB3.out.trans (hb4.mono HB3.out.size))
     rw[QH9 hc2]at hw4
     have HW4:=QQ2 (hw4.mono (Nat.le_refl _) (show 2*(J+2*m)+1<=2*K+1 by omega) (show J+2*m<=K by omega))
     clear hb4 hw4
     refine hK0.out _ _ (HQ2.out _ HB4.out) (fun _=>?_)
     clear hK0 K0
     try simp only[Act.put]
     try simp only[List.getElem_toArray]
     try simp only[List.getElem_cons_succ]
     try simp only[List.getElem_cons_zero]
     try simp only[List.setIfInBounds_toArray,List.set_cons_succ,List.set_cons_zero]
     refine rd1 4 ?_
     intro K0 hK0
     have hlk:=HLK.out _ HB4.out
     go_simp
     refine hK0.out _ _ (HQ2.out _ HB4.out) (fun _=>?_)
     clear hK0 K0 hlk
     try simp only[Act.put]
     try simp only[List.getElem_toArray]
     try simp only[List.getElem_cons_succ]
     try simp only[List.getElem_cons_zero]
     try simp only[List.setIfInBounds_toArray,List.set_cons_succ,List.set_cons_zero]
     have B4:=hidB (HBX2.out.trans (HB4.out.mono HBX2.out.size))
     have hwv:=(HV1.out.on (HB4.out.mono (by omega:w.heap.size<=X2.heap.size))).mono B4.out.size (Nat.le_refl _) (Nat.le_refl _)
     have HPL:=QQ2 (QA0 v (.map (some w3.heap.size)) (2*K+1) (2*K+1) K (V T2) (dlN m f) w4 (by omega) (by omega) hK2 HVB.out HDB.out hwv HW4.out (by simp))
     clear hwv
     refine rd1 11 ?_
     intro K0 hK0
     go_simp
     go_wp2_with (go_at_call 82;refine HPL.out.mono ?_;rintro e9 w5 ⟨rfl,hw5,hb5⟩)
     have HB5:=QQ2 (HB4.out.trans (hb5.mono HB4.out.size))
     have HW5:=QQ2 hw5
     clear hb5 hw5 HPL
     refine hK0.out _ _ (HQ2.out _ HB5.out) (fun _=>?_)
     clear hK0 K0
     try simp only[Act.put]
     try simp only[List.getElem_toArray]
     try simp only[List.getElem_cons_succ]
     try simp only[List.getElem_cons_zero]
     try simp only[List.setIfInBounds_toArray,List.set_cons_succ,List.set_cons_zero]
     have B5:Hid (Below w.heap.size w w5):=HBX2.out.trans (HB5.out.mono HBX2.out.size)
     have hS5:=(HS.out.on B5.out hbw).mono (Nat.le_refl _) B5.out.size (Nat.le_refl _) (Nat.le_refl _) (Nat.le_refl _)
     obtain⟨w6,D6,hrun,hS6,hg6,hk6,hm6⟩:=hS5.put G2.out hn hbL (c:=w4.heap.size) (f:=fun y=>V T2 y+dlN m f y) (Nat.le_trans hL B4.out.size) HW5.out
     unfold tiV at hrun
     have HS6:=QQ2 hS6
     have HG6:=QQ2 hg6
     have HK6:=QQ2 hk6
     have HM6:=QQ2 hm6
     have ht6:TiAt w6 w.heap.size T2:=(hg6.block _ (by have:=B5.out.size;have:=(HQ2.out _ HB5.out).lt;omega) (fun e=>by have:=Option.some.inj e;omega)).trans (HQ2.out _ HB5.out)
     have HT6:=QQ2 ht6
     clear hS5 hS6 hg6 hk6 hm6 ht6
     refine rd1 12 ?_
     intro K0 hK0
     go_simp
     refine hK0.out _ _ HT6.out (fun _=>?_)
     clear hK0 K0
     refine wpAnyH_done (by kernel_rfl) ?_ _
     go_wp2
     exact bodyPost_end (results_none rfl _ _ _) rfl ⟨rfl, D6, HS6.out.congr (fun U _ => by
      by_cases e:U=T2
      · rw[if_pos e,if_pos e,e]
      · rw[if_neg e,if_neg e]),QG4 B5.out HG6.out hbw,HK6.out,HM6.out⟩
theorem JF7 (L b n K M J Hf : Nat) (V : List Nat → Int → Int) (D : DataW Unit) (T : List Nat) (f : Int → Int) (c a0 a1 a2 a3 : Nat) (w : World) (hT : GoodK T) (h0 : a0 < 26) (h1 : a1 < 26) (h2 : a2 < 26) (h3 : a3 < 26) (hR : RingAt w) (hL : L ≤ w.heap.size) (hbL : b < L) (hn : n < 100000000)
    (hK:J+4<=K) (hK2:K<=900) (hM:M<=10000) (hS:SumD w L w.heap.size b n K (2*K+1) V D) (hf:WkV w w.heap.size (.map (some c)) M J f) (hH:(2*J+1)*(Hf*2)<=4000000000000000000) (hfb:∀ y,(f y).natAbs<=Hf) (hVb:∀ y,(V (t4 T a1 a2 a3 a0) y).natAbs<=1000000000000000000) (hdb:∀ y,(dlN (c4 T a1 a2 a3 a0) f y).natAbs<=1000000000000000000):
    Calls Tryz.prog 81 #[.map (some b),tiV T,.map (some c),.agg #[.int .i64 (a0:Nat),.int .i64 (a1:Nat),.int .i64 (a2:Nat),.int .i64 (a3:Nat)],.int .i64 1] w fun e w'=>e=.returned (.tuple #[])/\∃ D',SumD w' L w'.heap.size b (n+1) K (2*K+1) (fun U=>if U=t4 T a1 a2 a3 a0 then(fun y=>V U y+dlN (c4 T a1 a2 a3 a0) f y) else V U) D'/\w.grownBy w' (some b)/\(∀ l,keyOf Tryz.prog 112 (tiV (t4 T a1 a2 a3 a0))=some l->Maps.has D' l=true)/\(∀ kl,Maps.has D kl=true->Maps.has D' kl=true):=by
 obtain⟨T1,hT1⟩:∃ X,Qu2 T a1 a2=X:=⟨_,rfl⟩
 obtain⟨T2,hT2⟩:∃ X,Qu2 T1 a3 a0=X:=⟨_,rfl⟩
 obtain⟨n1,hn1⟩:∃ X,XC6 T a1 a2=X:=⟨_,rfl⟩
 obtain⟨n2,hn2⟩:∃ X,XC6 T1 a3 a0=X:=⟨_,rfl⟩
 have e4:t4 T a1 a2 a3 a0=T2:=by unfold t4;rw[hT1,hT2]
 have ec:c4 T a1 a2 a3 a0=n1+n2:=by unfold c4;rw[hn1,hT1,hn2]
 have hc2:n1+n2<=2:=by rw[<-ec];exact XD5 _ _ _ _ _
 obtain⟨m,hm⟩:∃ X,n1+n2=X:=⟨_,rfl⟩
 rw[e4]at hVb ⊢
 rw[ec,hm]at hdb ⊢
 rw[hm]at hc2
 have HMM:=QQ2 hm
 clear hm
 have g1:GoodK T1:=by rw[<-hT1];exact hT.tie _ _
 have g2:GoodK T2:=by rw[<-hT2];exact g1.tie _ _
 have HC1:Hid (∀ W,Calls Tryz.prog 93 #[.agg (tiA T),.int .i64 (a1:Nat),.int .i64 (a2:Nat)] W fun e w'=>e=.returned (.tuple #[.agg (tiA T1),.int .i64 (n1:Nat)])/\Below W.heap.size W w'):=fun W=>by rw[<-hT1,<-hn1];exact Qv6 T a1 a2 W hT (by omega) (by omega)
 have HC2:Hid (∀ W,Calls Tryz.prog 93 #[.agg (tiA T1),.int .i64 (a3:Nat),.int .i64 (a0:Nat)] W fun e w'=>e=.returned (.tuple #[.agg (tiA T2),.int .i64 (n2:Nat)])/\Below W.heap.size W w'):=fun W=>by rw[<-hT2,<-hn2];exact Qv6 T1 a3 a0 W g1 (by omega) (by omega)
 clear hT1 hT2 hn1 hn2 e4 ec
 have HT:=QQ2 hT
 have G1:=QQ2 g1
 have G2:=QQ2 g2
 have HR:=QQ2 hR
 have HS:=QQ2 hS
 have HF:=QQ2 hf
 have HFB:=QQ2 hfb
 have HVB:=QQ2 hVb
 have HDB:=QQ2 hdb
 have HH:=QQ2 hH
 have hbw:b<w.heap.size:=by omega
 clear hT g1 g2 hR hS hf hfb hVb hdb hH
 obtain⟨V0,hV0⟩:∃ X,(w.alloc (.cells (tiA T) 112)).alloc (.cells #[.int .i64 (a0:Nat),.int .i64 (a1:Nat),.int .i64 (a2:Nat),.int .i64 (a3:Nat)] 116)=X:=⟨_,rfl⟩
 have B0:=hidB (show Below w.heap.size w V0 by rw[<-hV0];exact((Below.refl _ _).alloc (Nat.le_refl _) _).alloc (by simp) _)
 have T0 : Hid (TiAt V0 w.heap.size T) := (by
  rw[<-hV0];unfold TiAt
  rw[heap_alloc_old _ _ (by simp),heap_alloc_new]:TiAt V0 w.heap.size T)
 have A0 : Hid (V0.heap[w.heap.size + 1]? = some (.cells #[.int .i64 (a0 : Nat), .int .i64 (a1 : Nat), .int .i64 (a2 : Nat), .int .i64 (a3 : Nat)] 116 (0, 0))) := (by
  rw[<-hV0]
  have:=heap_alloc_new (w.alloc (.cells (tiA T) 112)) (.cells #[.int .i64 (a0:Nat),.int .i64 (a1:Nat),.int .i64 (a2:Nat),.int .i64 (a3:Nat)] 116)
  rw[show(w.alloc (.cells (tiA T) 112)).heap.size=w.heap.size+1 by simp]at this
  exact this:V0.heap[w.heap.size+1]?=_)
 have s0:w.heap.size+1<V0.heap.size:=(Array.getElem?_eq_some_iff.1 A0.out).1
 have HV0:=QQ2 hV0
 clear hV0
 have HQ0:Hid (∀ W,Below V0.heap.size V0 W->(fun X:World=>X.cell? ⟨w.heap.size+1,0,none⟩=some (.int .i64 (a0:Nat))/\X.cell? ⟨w.heap.size+1,1,none⟩=some (.int .i64 (a1:Nat))/\X.cell? ⟨w.heap.size+1,2,none⟩=some (.int .i64 (a2:Nat))/\X.cell? ⟨w.heap.size+1,3,none⟩=some (.int .i64 (a3:Nat))) W):=fun W hW=>arF ((hW.block _ s0).trans A0.out)
 have HD0:Hid (Below V0.heap.size V0 V0.drew):=(Below.refl _ _).drew
 unfold tiV
 go_enter Tryz.func81,Tryz.ntmps81
 go_upto_region 1 with(fail)
 rw[HV0.out]
 refine rhd HQ0 HD0.out (fun hHeld=>?_)
 have x1:IntKind.i64.wrap 1=1:=by decide
 have x2:IntKind.i64.wrap 2=2:=by decide
 refine tq 14 1 (h:=?_)
 refine tq 15 2 (h:=?_)
 refine tq 16 3 (h:=?_)
 refine tq 17 4 (h:=?_)
 refine tq 18 5 (h:=?_)
 refine tq 19 6 (h:=?_)
 refine tq 20 7 (h:=?_)
 simp only[List.setIfInBounds_toArray,List.set_cons_succ,List.set_cons_zero]
 clear hHeld x1 x2
 refine rd1 0 ?_
 intro K0 hK0
 refine wp_load_row 112 _ rfl w.heap.size rfl 112 _ (0,0) _ (T0.out.on HD0.out (by omega)) Tryz.underlying112 rfl (QJ8 HT.out) ?_
 refine hK0.out _ _ (HQ0.out _ HD0.out) (fun _=>?_)
 clear hK0 K0
 try simp only[Act.put]
 try simp only[List.getElem_toArray]
 try simp only[List.getElem_cons_succ]
 try simp only[List.getElem_cons_zero]
 try simp only[List.setIfInBounds_toArray,List.set_cons_succ,List.set_cons_zero]
 refine rd1 8 ?_
 intro K0 hK0
 go_simp
 go_wp2_with (go_at_call 93;refine(HC1.out _).mono ?_;rintro e9 w1 ⟨rfl,hb1⟩)
 have HB1:=QQ2 (HD0.out.trans (hb1.mono HD0.out.size))
 clear hb1
 refine hK0.out _ _ (HQ0.out _ HB1.out) (fun hHeld=>?_)
 clear hK0 K0
 try simp only[Act.put]
 try simp only[List.getElem_toArray]
 try simp only[List.getElem_cons_succ]
 try simp only[List.getElem_cons_zero]
 try  refine tq 12 9 (h:=?_)
 refine tq 22 10 (h:=?_)
 refine tq 23 11 (h:=?_)
 simp only[List.setIfInBounds_toArray,List.set_cons_succ,List.set_cons_zero]
 clear hHeld
 have TI1:=hidB (T0.out.on HB1.out (by omega))
 have hX1:TiAt (w1.setRow w.heap.size (tiA T1)) w.heap.size T1:=TI1.out.row
 have hA1:(w1.setRow w.heap.size (tiA T1)).heap[w.heap.size+1]?=_:=(setRow_other (by omega)).trans ((HB1.out.block _ s0).trans A0.out)
 have hB1:Below w.heap.size w (w1.setRow w.heap.size (tiA T1)):=QJ5 (B0.out.trans (HB1.out.mono B0.out.size)) (Nat.le_refl _)
 refine rd1 12 ?_
 intro K0 hK0
 refine wp_store_row 112 _ _ rfl w.heap.size (tiA T1) rfl rfl 112 _ TI1.out (QJ8 G1.out) (by rw[QK2 HT.out,QK2 G1.out]) (QC7 _) ?_
 refine hK0.out _ _ (arF hA1) (fun hHeld=>?_)
 clear hK0 K0
 generalize w1.setRow w.heap.size (tiA T1)=X1 at*
 try simp only[Act.put]
 try simp only[List.getElem_toArray]
 try simp only[List.getElem_cons_succ]
 try simp only[List.getElem_cons_zero]
 try  refine tq 10 13 (h:=?_)
 simp only[List.setIfInBounds_toArray,List.set_cons_succ,List.set_cons_zero]
 refine wpAnyH_done (by kernel_rfl) ?_ _
 clear hHeld
 have HX1:=QQ2 hX1
 have HA1:=QQ2 hA1
 have HBX1:=QQ2 hB1
 have s1:w.heap.size+1<X1.heap.size:=(Array.getElem?_eq_some_iff.1 hA1).1
 clear hX1 hA1 hB1 TI1 HB1 HQ0 HD0 T0 A0 B0 HV0 s0
 have HQ1:Hid (∀ W,Below X1.heap.size X1 W->(fun X:World=>X.cell? ⟨w.heap.size+1,0,none⟩=some (.int .i64 (a0:Nat))/\X.cell? ⟨w.heap.size+1,1,none⟩=some (.int .i64 (a1:Nat))/\X.cell? ⟨w.heap.size+1,2,none⟩=some (.int .i64 (a2:Nat))/\X.cell? ⟨w.heap.size+1,3,none⟩=some (.int .i64 (a3:Nat))) W):=fun W hW=>arF ((hW.block _ s1).trans HA1.out)
 have HD1:Hid (Below X1.heap.size X1 X1.drew):=(Below.refl _ _).drew
 go_upto_region 2 with(fail)
 refine rhd HQ1 HD1.out (fun hHeld=>?_)
 have x2:IntKind.i64.wrap 2=2:=by decide
 have x3:IntKind.i64.wrap 3=3:=by decide
 have x4:IntKind.i64.wrap 4=4:=by decide
 have x0:IntKind.i64.wrap 0=0:=by decide
 have m3:Int.tmod 3 4=3:=by decide
 have m4:Int.tmod 4 4=0:=by decide
 refine tq 26 1 (h:=?_)
 refine tq 27 2 (h:=?_)
 refine tq 28 3 (h:=?_)
 refine tq 29 4 (h:=?_)
 refine tq 30 5 (h:=?_)
 refine tq 31 6 (h:=?_)
 refine tq 32 7 (h:=?_)
 refine tq 33 8 (h:=?_)
 refine tq 34 9 (h:=?_)
 simp only[List.setIfInBounds_toArray,List.set_cons_succ,List.set_cons_zero]
 clear hHeld x2 x3 x4 x0 m3 m4
 refine rd1 0 ?_
 intro K0 hK0
 refine wp_load_row 112 _ rfl w.heap.size rfl 112 _ (0,0) _ (HX1.out.on HD1.out (by omega)) Tryz.underlying112 rfl (QJ8 G1.out) ?_
 refine hK0.out _ _ (HQ1.out _ HD1.out) (fun _=>?_)
 clear hK0 K0
 try simp only[Act.put]
 try simp only[List.getElem_toArray]
 try simp only[List.getElem_cons_succ]
 try simp only[List.getElem_cons_zero]
 try simp only[List.setIfInBounds_toArray,List.set_cons_succ,List.set_cons_zero]
 refine rd1 10 ?_
 intro K0 hK0
 go_simp
 go_wp2_with (go_at_call 93;refine(HC2.out _).mono ?_;rintro e9 w2 ⟨rfl,hb2⟩)
 have HB2:=QQ2 (HD1.out.trans (hb2.mono HD1.out.size))
 clear hb2
 refine hK0.out _ _ (HQ1.out _ HB2.out) (fun hHeld=>?_)
 clear hK0 K0
 try simp only[Act.put]
 try simp only[List.getElem_toArray]
 try simp only[List.getElem_cons_succ]
 try simp only[List.getElem_cons_zero]
 try  refine tq 24 11 (h:=?_)
 refine tq 36 12 (h:=?_)
 refine tq 37 13 (h:=?_)
 simp only[List.setIfInBounds_toArray,List.set_cons_succ,List.set_cons_zero]
 clear hHeld
 have TI2:=hidB (HX1.out.on HB2.out (by omega))
 have hX2:TiAt (w2.setRow w.heap.size (tiA T2)) w.heap.size T2:=TI2.out.row
 have hA2:(w2.setRow w.heap.size (tiA T2)).heap[w.heap.size+1]?=_:=(setRow_other (by omega)).trans ((HB2.out.block _ s1).trans HA1.out)
 have hB2:Below w.heap.size w (w2.setRow w.heap.size (tiA T2)):=QJ5 (HBX1.out.trans (HB2.out.mono HBX1.out.size)) (Nat.le_refl _)
 refine rd1 14 ?_
 intro K0 hK0
 refine wp_store_row 112 _ _ rfl w.heap.size (tiA T2) rfl rfl 112 _ TI2.out (QJ8 G2.out) (by rw[QK2 G1.out,QK2 G2.out]) (QC7 _) ?_
 refine hK0.out _ _ (arF hA2) (fun hHeld=>?_)
 clear hK0 K0
 generalize w2.setRow w.heap.size (tiA T2)=X2 at*
 try simp only[Act.put]
 try simp only[List.getElem_toArray]
 try simp only[List.getElem_cons_succ]
 try simp only[List.getElem_cons_zero]
 try  refine tq 11 15 (h:=?_)
 simp only[List.setIfInBounds_toArray,List.set_cons_succ,List.set_cons_zero]
 refine wpAnyH_done (by kernel_rfl) ?_ _
 have HX2:=QQ2 hX2
 have HBX2:=QQ2 hB2
 have s2:w.heap.size+1<X2.heap.size:=(Array.getElem?_eq_some_iff.1 hA2).1
 clear hHeld hX2 hA2 hB2 TI2 HB2 HQ1 HD1 HX1 HA1 HBX1 s1
 have hS2:=HS.out.on HBX2.out hbw
 obtain⟨v,hv1,hv2⟩:=hS2.look2 G2.out hbw
 have HV1:=QQ2 hv1
 have HQ2:Hid (∀ W,Below X2.heap.size X2 W->(fun X:World=>TiAt X w.heap.size T2) W):=fun W hW=>HX2.out.on hW (by omega)
 have HLK:Hid (∀ W,Below X2.heap.size X2 W->(Instr.lookup 115 (.map (some b)) (.agg (tiA T2)) false).run Tryz.prog W=.ok v W):=fun W hW=>hv2 W (hW.mono (by omega))
 have HS2:=QQ2 hS2
 have HD2:Hid (Below X2.heap.size X2 X2.drew):=(Below.refl _ _).drew
 clear hv1 hv2 hS2
 go_upto_region 3 with(fail)
 refine rhd HQ2 HD2.out (fun hHeld=>?_)
 have x5:IntKind.i64.wrap ((n1:Int)+(n2:Int))=(m:Int):=by rw[show((n1:Int)+(n2:Int))=(m:Int) by have:=HMM.out;omega];exact wrap_small (by omega)
 refine tq 38 0 (h:=?_)
 refine tq 39 1 (hy:=fun W hW=>Qd1 112 _ rfl w.heap.size rfl 112 _ (0,0) _ hW Tryz.underlying112 rfl (QJ8 G2.out)) (h:=?_)
 refine tq 40 2 (h:=?_)
 refine tq 41 3 (hy:=fun W hW=>Qd1 112 _ rfl w.heap.size rfl 112 _ (0,0) _ hW Tryz.underlying112 rfl (QJ8 G2.out)) (h:=?_)
 refine tq 43 5 (h:=?_)
 refine tq 44 6 (h:=?_)
 refine tq 45 7 (h:=?_)
 refine tq 46 8 (h:=?_)
 simp only[List.setIfInBounds_toArray,List.set_cons_succ,List.set_cons_zero]
 clear hHeld x5
 have HRX:=hidB (HR.out.any (HBX2.out.trans (HD2.out.mono HBX2.out.size)))
 have HG:=QQ2 (XX4 m X2.drew (by omega) HRX.out)
 refine rd2 4 9 ?_ ?_
 · intro K0 hK0
   have hlk:=HLK.out _ HD2.out
   go_simp
   refine hK0.out _ _ (HQ2.out _ HD2.out) (fun _=>?_)
   clear hK0 K0 hlk
   try simp only[Act.put]
   try simp only[List.getElem_toArray]
   try simp only[List.getElem_cons_succ]
   try simp only[List.getElem_cons_zero]
   try simp only[List.setIfInBounds_toArray,List.set_cons_succ,List.set_cons_zero]
   refine rd1 9 ?_
   intro K0 hK0
   go_simp
   go_wp2_with (go_at_call 62;refine HG.out.mono ?_;rintro e9 w3 ⟨c3,rfl,hc3,hw3,hb3⟩)
   have HB3:=QQ2 (HD2.out.trans (hb3.mono HD2.out.size))
   have HW3:=QQ2 hw3
   clear hb3 hw3
   refine hK0.out _ _ (HQ2.out _ HB3.out) (fun _=>?_)
   clear hK0 K0
   try simp only[Act.put]
   try simp only[List.getElem_toArray]
   try simp only[List.getElem_cons_succ]
   try simp only[List.getElem_cons_zero]
   try simp only[List.setIfInBounds_toArray,List.set_cons_succ,List.set_cons_zero]
   have B3:=hidB (HBX2.out.trans (HB3.out.mono HBX2.out.size))
   have HTM:=QQ2 (QY1 (.map (some c)) (.map (some c3)) M (2*(2*m)+1) J (2*m) Hf 2 (rgL m) f (dlN m QU9) w3 (by omega) (by omega) (by omega) HH.out HFB.out (ZQ6 hc2) ((HF.out.on B3.out).mono B3.out.size (Nat.le_refl _) (Nat.le_refl _)) HW3.out (by simp) (Qj8 hc2))
   refine rd1 10 ?_
   intro K0 hK0
   go_simp
   go_wp2_with (go_at_call 22;refine HTM.out.mono ?_;rintro e9 w4 ⟨rfl,hw4,hb4⟩)
   have HB4:=QQ2 (HB3.out.trans (hb4.mono HB3.out.size))
   rw[QH9 hc2]at hw4
   have HW4:=QQ2 (hw4.mono (Nat.le_refl _) (show 2*(J+2*m)+1<=2*K+1 by omega) (show J+2*m<=K by omega))
   clear hb4 hw4
   refine hK0.out _ _ (HQ2.out _ HB4.out) (fun _=>?_)
   clear hK0 K0
   try simp only[Act.put]
   try simp only[List.getElem_toArray]
   try simp only[List.getElem_cons_succ]
   try simp only[List.getElem_cons_zero]
   try simp only[List.setIfInBounds_toArray,List.set_cons_succ,List.set_cons_zero]
   have B4:=hidB (HBX2.out.trans (HB4.out.mono HBX2.out.size))
   have hwv:=(HV1.out.on (HB4.out.mono (by omega:w.heap.size<=X2.heap.size))).mono B4.out.size (Nat.le_refl _) (Nat.le_refl _)
   have HPL:=QQ2 (QA0 v (.map (some w3.heap.size)) (2*K+1) (2*K+1) K (V T2) (dlN m f) w4 (by omega) (by omega) hK2 HVB.out HDB.out hwv HW4.out (by simp))
   clear hwv
   refine rd1 11 ?_
   intro K0 hK0
   go_simp
   go_wp2_with (go_at_call 82;refine HPL.out.mono ?_;rintro e9 w5 ⟨rfl,hw5,hb5⟩)
   have HB5:=QQ2 (HB4.out.trans (hb5.mono HB4.out.size))
   have HW5:=QQ2 hw5
   clear hb5 hw5 HPL
   refine hK0.out _ _ (HQ2.out _ HB5.out) (fun _=>?_)
   clear hK0 K0
   try simp only[Act.put]
   try simp only[List.getElem_toArray]
   try simp only[List.getElem_cons_succ]
   try simp only[List.getElem_cons_zero]
   try simp only[List.setIfInBounds_toArray,List.set_cons_succ,List.set_cons_zero]
   have B5:=hidB (HBX2.out.trans (HB5.out.mono HBX2.out.size))
   have hS5:=(HS.out.on B5.out hbw).mono (Nat.le_refl _) B5.out.size (Nat.le_refl _) (Nat.le_refl _) (Nat.le_refl _)
   obtain⟨w6,D6,hrun,hS6,hg6,hk6,hm6⟩:=hS5.put G2.out hn hbL (c:=w4.heap.size) (f:=fun y=>V T2 y+dlN m f y) (Nat.le_trans hL B4.out.size) HW5.out
   unfold tiV at hrun
   have HS6:=QQ2 hS6
   have HG6:=QQ2 hg6
   have HK6:=QQ2 hk6
   have HM6:=QQ2 hm6
   have ht6:TiAt w6 w.heap.size T2:=(hg6.block _ (by have:=B5.out.size;have:=(HQ2.out _ HB5.out).lt;omega) (fun e=>by have:=Option.some.inj e;omega)).trans (HQ2.out _ HB5.out)
   have HT6:=QQ2 ht6
   clear hS5 hS6 hg6 hk6 hm6 ht6
   refine rd1 12 ?_
   intro K0 hK0
   go_simp
   refine hK0.out _ _ HT6.out (fun _=>?_)
   clear hK0 K0
   refine wpAnyH_done (by kernel_rfl) ?_ _
   go_wp2
   exact bodyPost_end (results_none rfl _ _ _) rfl ⟨rfl, D6, HS6.out.congr (fun U _ => by
    by_cases e:U=T2
    · rw[if_pos e,if_pos e,e]
    · rw[if_neg e,if_neg e]),QG4 B5.out HG6.out hbw,HK6.out,HM6.out⟩
 · intro K0 hK0
   go_simp
   go_wp2_with (go_at_call 62;refine HG.out.mono ?_;rintro e9 w3 ⟨c3,rfl,hc3,hw3,hb3⟩)
   have HB3:=QQ2 (HD2.out.trans (hb3.mono HD2.out.size))
   have HW3:=QQ2 hw3
   clear hb3 hw3
   refine hK0.out _ _ (HQ2.out _ HB3.out) (fun _=>?_)
   clear hK0 K0
   try simp only[Act.put]
   try simp only[List.getElem_toArray]
   try simp only[List.getElem_cons_succ]
   try simp only[List.getElem_cons_zero]
   try simp only[List.setIfInBounds_toArray,List.set_cons_succ,List.set_cons_zero]
   have B3:=hidB (HBX2.out.trans (HB3.out.mono HBX2.out.size))
   have HTM:=QQ2 (QY1 (.map (some c)) (.map (some c3)) M (2*(2*m)+1) J (2*m) Hf 2 (rgL m) f (dlN m QU9) w3 (by omega) (by omega) (by omega) HH.out HFB.out (ZQ6 hc2) ((HF.out.on B3.out).mono B3.out.size (Nat.le_refl _) (Nat.le_refl _)) HW3.out (by simp) (Qj8 hc2))
   refine rd2 4 10 ?_ ?_
   · intro K0 hK0
     have hlk:=HLK.out _ HB3.out
     go_simp
     refine hK0.out _ _ (HQ2.out _ HB3.out) (fun _=>?_)
     clear hK0 K0 hlk
     try simp only[Act.put]
     try simp only[List.getElem_toArray]
     try simp only[List.getElem_cons_succ]
     try simp only[List.getElem_cons_zero]
     try simp only[List.setIfInBounds_toArray,List.set_cons_succ,List.set_cons_zero]
     refine rd1 10 ?_
     intro K0 hK0
     go_simp
     go_wp2_with (go_at_call 22;refine HTM.out.mono ?_;rintro e9 w4 ⟨rfl,hw4,hb4⟩)
     have HB4:=QQ2 (HB3.out.trans (hb4.mono HB3.out.size))
     rw[QH9 hc2]at hw4
     have HW4:=QQ2 (hw4.mono (Nat.le_refl _) (show 2*(J+2*m)+1<=2*K+1 by omega) (show J+2*m<=K by omega))
     clear hb4 hw4
     refine hK0.out _ _ (HQ2.out _ HB4.out) (fun _=>?_)
     clear hK0 K0
     try simp only[Act.put]
     try simp only[List.getElem_toArray]
     try simp only[List.getElem_cons_succ]
     try simp only[List.getElem_cons_zero]
     try simp only[List.setIfInBounds_toArray,List.set_cons_succ,List.set_cons_zero]
     have B4:=hidB (HBX2.out.trans (HB4.out.mono HBX2.out.size))
     have hwv:=(HV1.out.on (HB4.out.mono (by omega:w.heap.size<=X2.heap.size))).mono B4.out.size (Nat.le_refl _) (Nat.le_refl _)
     have HPL:=QQ2 (QA0 v (.map (some w3.heap.size)) (2*K+1) (2*K+1) K (V T2) (dlN m f) w4 (by omega) (by omega) hK2 HVB.out HDB.out hwv HW4.out (by simp))
     clear hwv
     refine rd1 11 ?_
     intro K0 hK0
     go_simp
     go_wp2_with (go_at_call 82;refine HPL.out.mono ?_;rintro e9 w5 ⟨rfl,hw5,hb5⟩)
     have HB5:=QQ2 (HB4.out.trans (hb5.mono HB4.out.size))
     have HW5:=QQ2 hw5
     clear hb5 hw5 HPL
     refine hK0.out _ _ (HQ2.out _ HB5.out) (fun _=>?_)
     clear hK0 K0
     try simp only[Act.put]
     try simp only[List.getElem_toArray]
     try simp only[List.getElem_cons_succ]
     try simp only[List.getElem_cons_zero]
     try simp only[List.setIfInBounds_toArray,List.set_cons_succ,List.set_cons_zero]
     have B5:=hidB (HBX2.out.trans (HB5.out.mono HBX2.out.size))
     have hS5:=(HS.out.on B5.out hbw).mono (Nat.le_refl _) B5.out.size (Nat.le_refl _) (Nat.le_refl _) (Nat.le_refl _)
     obtain⟨w6,D6,hrun,hS6,hg6,hk6,hm6⟩:=hS5.put G2.out hn hbL (c:=w4.heap.size) (f:=fun y=>V T2 y+dlN m f y) (Nat.le_trans hL B4.out.size) HW5.out
     unfold tiV at hrun
     have HS6:=QQ2 hS6
     have HG6:=QQ2 hg6
     have HK6:=QQ2 hk6
     have HM6:=QQ2 hm6
     have ht6:TiAt w6 w.heap.size T2:=(hg6.block _ (by have:=B5.out.size;have:=(HQ2.out _ HB5.out).lt;omega) (fun e=>by have:=Option.some.inj e;omega)).trans (HQ2.out _ HB5.out)
     have HT6:=QQ2 ht6
     clear hS5 hS6 hg6 hk6 hm6 ht6
     refine rd1 12 ?_
     intro K0 hK0
     go_simp
     refine hK0.out _ _ HT6.out (fun _=>?_)
     clear hK0 K0
     refine wpAnyH_done (by kernel_rfl) ?_ _
     go_wp2
     exact bodyPost_end (results_none rfl _ _ _) rfl ⟨rfl, D6, HS6.out.congr (fun U _ => by
      by_cases e:U=T2
      · rw[if_pos e,if_pos e,e]
      · rw[if_neg e,if_neg e]),QG4 B5.out HG6.out hbw,HK6.out,HM6.out⟩
   · intro K0 hK0
     go_simp
     go_wp2_with (go_at_call 22;refine HTM.out.mono ?_;rintro e9 w4 ⟨rfl,hw4,hb4⟩)
     have HB4:=QQ2 (HB3.out.trans (hb4.mono HB3.out.size))
     rw[QH9 hc2]at hw4
     have HW4:=QQ2 (hw4.mono (Nat.le_refl _) (show 2*(J+2*m)+1<=2*K+1 by omega) (show J+2*m<=K by omega))
     clear hb4 hw4
     refine hK0.out _ _ (HQ2.out _ HB4.out) (fun _=>?_)
     clear hK0 K0
     try simp only[Act.put]
     try simp only[List.getElem_toArray]
     try simp only[List.getElem_cons_succ]
     try simp only[List.getElem_cons_zero]
     try simp only[List.setIfInBounds_toArray,List.set_cons_succ,List.set_cons_zero]
     refine rd1 4 ?_
     intro K0 hK0
     have hlk:=HLK.out _ HB4.out
     go_simp
     refine hK0.out _ _ (HQ2.out _ HB4.out) (fun _=>?_)
     clear hK0 K0 hlk
     try simp only[Act.put]
     try simp only[List.getElem_toArray]
     try simp only[List.getElem_cons_succ]
     try simp only[List.getElem_cons_zero]
     try simp only[List.setIfInBounds_toArray,List.set_cons_succ,List.set_cons_zero]
     have B4:=hidB (HBX2.out.trans (HB4.out.mono HBX2.out.size))
     have hwv:=(HV1.out.on (HB4.out.mono (by omega:w.heap.size<=X2.heap.size))).mono B4.out.size (Nat.le_refl _) (Nat.le_refl _)
     have HPL:=QQ2 (QA0 v (.map (some w3.heap.size)) (2*K+1) (2*K+1) K (V T2) (dlN m f) w4 (by omega) (by omega) hK2 HVB.out HDB.out hwv HW4.out (by simp))
     clear hwv
     refine rd1 11 ?_
     intro K0 hK0
     go_simp
     go_wp2_with (go_at_call 82;refine HPL.out.mono ?_;rintro e9 w5 ⟨rfl,hw5,hb5⟩)
     have HB5:=QQ2 (HB4.out.trans (hb5.mono HB4.out.size))
     have HW5:=QQ2 hw5
     clear hb5 hw5 HPL
     refine hK0.out _ _ (HQ2.out _ HB5.out) (fun _=>?_)
     clear hK0 K0
     try simp only[Act.put]
     try simp only[List.getElem_toArray]
     try simp only[List.getElem_cons_succ]
     try simp only[List.getElem_cons_zero]
     try simp only[List.setIfInBounds_toArray,List.set_cons_succ,List.set_cons_zero]
     have B5:=hidB (HBX2.out.trans (HB5.out.mono HBX2.out.size))
     have hS5:=(HS.out.on B5.out hbw).mono (Nat.le_refl _) B5.out.size (Nat.le_refl _) (Nat.le_refl _) (Nat.le_refl _)
     obtain⟨w6,D6,hrun,hS6,hg6,hk6,hm6⟩:=hS5.put G2.out hn hbL (c:=w4.heap.size) (f:=fun y=>V T2 y+dlN m f y) (Nat.le_trans hL B4.out.size) HW5.out
     unfold tiV at hrun
     have HS6:=QQ2 hS6
     have HG6:=QQ2 hg6
     have HK6:=QQ2 hk6
     have HM6:=QQ2 hm6
     have ht6:TiAt w6 w.heap.size T2:=(hg6.block _ (by have:=B5.out.size;have:=(HQ2.out _ HB5.out).lt;omega) (fun e=>by have:=Option.some.inj e;omega)).trans (HQ2.out _ HB5.out)
     have HT6:=QQ2 ht6
     clear hS5 hS6 hg6 hk6 hm6 ht6
     refine rd1 12 ?_
     intro K0 hK0
     go_simp
     refine hK0.out _ _ HT6.out (fun _=>?_)
     clear hK0 K0
     refine wpAnyH_done (by kernel_rfl) ?_ _
     go_wp2
     exact bodyPost_end (results_none rfl _ _ _) rfl ⟨rfl, D6, HS6.out.congr (fun U _ => by
      by_cases e:U=T2
      · rw[if_pos e,if_pos e,e]
      · rw[if_neg e,if_neg e]),QG4 B5.out HG6.out hbw,HK6.out,HM6.out⟩
end Go.Proofs.YtookanmeflbdlaaGreatDoor.Poly
/- The walk of bracket.sums.undone. -/
namespace Go.Proofs.YtookanmeflbdlaaGreatDoor.Poly
open Go.RowKit Go.Maps
set_option maxHeartbeats 16000000
set_option maxRecDepth 100000
def dnF (kf:List Nat->Option Lit) (left:Lit->Bool) (T:List Nat):Bool:=match kf T with|some l=>!left l|none=>true
theorem Qj6 {kf:List Nat->Option Lit} {left:Lit->Bool} {T:List Nat} {l:Lit} (h:kf T=some l):dnF kf left T=!left l:=by unfold dnF;rw[h]
theorem ZJ0 {a b:Lit} (ha:WideAt.IsKeyLit a):a.sameKey b=true↔a=b:=by
 cases a<;>cases b<;>simp_all [Lit.sameKey,WideAt.IsKeyLit]
theorem XH2 {kf:List Nat->Option Lit} (hkf:∀ T,kf T=keyOf Tryz.prog 112 (tiV T)) {left:Lit->Bool} {T:List Nat} {kl:Lit} (hT:keyOf Tryz.prog 112 (tiV T)=some kl) (U:List Nat) (hU:GoodK U):dnF kf (fun z=>left z&&!z.sameKey kl) U=true↔dnF kf left U=true∨U=T:=by
 obtain⟨lu,hlu⟩:=keyT hU
 have hk2:=(hkf U).trans hlu
 rw[Qj6 hk2,Qj6 hk2]
 have hk:=lawT.key hlu
 by_cases e:U=T
 · subst e
   rw[hT]at hlu
   obtain rfl:=Option.some.inj hlu
   have:kl.sameKey kl=true:=(ZJ0 hk).2 rfl
   simp[this]
 · have hne:lu≠kl:=fun h0=>e (Xy0 (lawT.inj hlu (h0▸hT)))
   have:lu.sameKey kl=false:=by
    cases h:lu.sameKey kl with
    |false=>rfl
    |true=>exact absurd ((ZJ0 hk).1 h) hne
   simp[this,e]
theorem KC2 (e:Int) (f:Int->Int):prodL [(e,1)] f=shA e f:=by
 funext y
 show 1*f (y-e)+0=f (y-e)
 omega
theorem Kq8 (e y:Int):(coefL [(e,1)] y).natAbs<=1:=by
 rw[Qq8];split<;>decide
theorem XU6 (C : List Cr) (c0 k b n KK : Nat) (D : DataW Unit) (a0 a1 a2 a3 : Nat) (w : World) (hc0 : c0 ≤ 16) (hk : k ≤ 11) (hn : n ≤ 4096) (hKK : KK = 2 * c0 + 5 * k) (e0 : arQ C k 0 = a0) (e1 : arQ C k 1 = a1) (e2 : arQ C k 2 = a2) (e3 : arQ C k 3 = a3) (h0 : a0 < 26) (h1 : a1 < 26) (h2 : a2 < 26) (h3 : a3 < 26)
    (hR:RingAt w) (hS:SumD w 0 w.heap.size b n KK (2*KK+1) (mS C c0 k) D) (hcv:∀ s l,s<2 ^ k->keyOf Tryz.prog 112 (tiV (kyS C s k))=some l->Maps.has D l=true):
    Calls Tryz.prog 64 #[.map (some b),.agg #[.int .i64 (a0:Nat),.int .i64 (a1:Nat),.int .i64 (a2:Nat),.int .i64 (a3:Nat)]] w fun e w'=>∃ (c:Nat) (D':DataW Unit),e=.returned (.map (some c))/\SumD w' 0 w'.heap.size c (2*n) (KK+5) (2*(KK+5)+1) (mS C c0 (k+1)) D'/\(∀ s l,s<2 ^ (k+1)->keyOf Tryz.prog 112 (tiV (kyS C s (k+1)))=some l->Maps.has D' l=true)/\Below w.heap.size w w':=by
 have hbw:=hS.own.lt
 have hsz:=hS.own.size_le
 have hKb:KK<=87:=by omega
 have HA:Hid (∀ T,tA C k T=t4 T a0 a1 a2 a3/\cA C k T=c4 T a0 a1 a2 a3/\tB C k T=t4 T a1 a2 a3 a0/\cB C k T=c4 T a1 a2 a3 a0):=fun T=>by unfold tA cA tB cB;rw[e0,e1,e2,e3];exact⟨rfl,rfl,rfl,rfl⟩
 have hp49:2 ^ (c0+3*k)<=2 ^ 49:=Nat.pow_le_pow_right (by omega) (by omega)
 have hp52:2 ^ (c0+3*k+3)<=2 ^ 52:=Nat.pow_le_pow_right (by omega) (by omega)
 have HH1:=hidB ((Nat.le_trans (Nat.mul_le_mul (show 2*KK+1<=200 by omega) (show 2 ^ (c0+3*k)*1<=2 ^ 49 by omega)) (by decide):(2*KK+1)*(2 ^ (c0+3*k)*1)<=4000000000000000000))
 have HH2:=hidB ((Nat.le_trans (Nat.mul_le_mul (show 2*(KK+1)+1<=200 by omega) (show 2 ^ (c0+3*k)*2<=2 ^ 50 by omega)) (by decide):(2*(KK+1)+1)*(2 ^ (c0+3*k)*2)<=4000000000000000000))
 have HDS:Hid (∀ (T:List Nat) (e:Int) (c:Nat),c<=2->∀ y,(dlN c (shA e (mS C c0 k T)) y).natAbs<=2 ^ 51):=fun T e c hc y=>by
  have h:=ZX7 (f:=shA e (mS C c0 k T)) (H:=2 ^ (c0+3*k)) (fun y=>Kh2 C c0 k T (y-e)) c y
  have h2:2 ^ c<=2 ^ 2:=Nat.pow_le_pow_right (by omega) hc
  exact Nat.le_trans h (Nat.le_trans (Nat.mul_le_mul h2 hp49) (by decide))
 have HUB:Hid (∀ (dn:List Nat->Bool) (U:List Nat) (y:Int),(XD1 C c0 k dn U y).natAbs<=2 ^ 52):=fun dn U y=>Nat.le_trans (Kv2 C c0 k dn U y) hp52
 obtain⟨kf,hkf⟩:∃ kf:List Nat->Option Lit,∀ T,kf T=keyOf Tryz.prog 112 (tiV T):=⟨_,fun _=>rfl⟩
 have HKF:=QQ2 hkf
 have HKK:=QQ2 hKK
 have HS:=QQ2 hS
 have HCV:=QQ2 hcv
 have HRG:=QQ2 hR
 have hmm:∀ w:World,(Instr.makeMap 115 none).run Tryz.prog w=.ok (.map (some w.heap.size)) (w.alloc (.map #[] 0)):=fun _=>rfl
 clear e0 e1 e2 e3 hp49 hp52 hKK hS hcv hR hkf
 obtain⟨Z,hZ⟩:∃ Z,Z=(w.alloc (.cells #[.int .i64 (a0:Nat),.int .i64 (a1:Nat),.int .i64 (a2:Nat),.int .i64 (a3:Nat)] 116)).alloc (.map #[] 0):=⟨_,rfl⟩
 have HZ:=QQ2 hZ
 have sZ:Z.heap.size=w.heap.size+2:=by rw[hZ];simp
 have BZ:=hidB (show Below w.heap.size w Z by rw[hZ];exact((Below.refl _ _).alloc (Nat.le_refl _) _).alloc (by simp) _)
 have RZ:=hidB (show Z.heap[w.heap.size]?=some (.cells #[.int .i64 (a0:Nat),.int .i64 (a1:Nat),.int .i64 (a2:Nat),.int .i64 (a3:Nat)] 116 (0,0)) by rw[hZ,heap_alloc_old _ _ (by simp),heap_alloc_new])
 have SZ : Hid (SumD Z (w.heap.size + 3) Z.heap.size (w.heap.size + 1) 0 (KK + 5) (2 * (KK + 5) + 1) (fun _ _ => 0) (.map [])) := (by
  have:=SumD.made (w.alloc (.cells #[.int .i64 (a0:Nat),.int .i64 (a1:Nat),.int .i64 (a2:Nat),.int .i64 (a3:Nat)] 116)) (w.heap.size+3) Z.heap.size (KK+5) (2*(KK+5)+1)
  rw[show(w.alloc (.cells #[.int .i64 (a0:Nat),.int .i64 (a1:Nat),.int .i64 (a2:Nat),.int .i64 (a3:Nat)] 116)).heap.size=w.heap.size+1 by simp,<-hZ]at this
  exact this:SumD Z (w.heap.size+3) Z.heap.size (w.heap.size+1) 0 (KK+5) (2*(KK+5)+1) (fun _ _=>0) (.map []))
 have OZ:=hidB ((HS.out.on BZ.out hbw).own)
 clear hZ
 go_enter Tryz.func64,Tryz.ntmps64
 go_upto_region 2 with(fail)
 rw[<-HZ.out]
 go_wp2_with (first
  |(at_range;refine wpList_range_own _ rfl _ 115 rfl 112 58 lawT Tryz.underlying115 ZQ3 b n _ rfl OZ.out ?_;intro w0 hrg0 hg0 hs0))
 try go_frame
 rw[sZ]at hrg0 hs0 ⊢
 have B0:Below w.heap.size w w0:=BZ.out.grown hg0 (by omega) (fun j hj=>by cases hj)
 have hS0:SumD w0 (w.heap.size+3) w0.heap.size (w.heap.size+1) 0 (KK+5) (2*(KK+5)+1) (XD1 C c0 k (dnF kf (Maps.has D))) (.map []):=by
  have h1:SumD w0 (w.heap.size+3) w0.heap.size (w.heap.size+1) 0 (KK+5) (2*(KK+5)+1) (fun _ _=>0) (.map []):=⟨SZ.out.own.kept hg0 (by simp),SZ.out.keys,(fun T l _ _ h=>by cases h),fun _ _ _ _ _ _=>rfl⟩
  refine h1.congr fun U _=>?_
  funext y
  rw[Xx6 C c0 k U (fun s hs=>?_) y]
  obtain⟨l,hl⟩:=keyT (QF5 C s k)
  rw[Qj6 ((HKF.out _).trans hl),HCV.out s l hs hl];rfl
 have hR0:w0.heap[w.heap.size]?=some (.cells #[.int .i64 (a0:Nat),.int .i64 (a1:Nat),.int .i64 (a2:Nat),.int .i64 (a3:Nat)] 116 (0,0)):=(hg0.block _ (by omega) (by simp)).trans RZ.out
 have HS0:=QQ2 hS0
 have HR0:=QQ2 hR0
 have HB0:=QQ2 B0
 clear hS0 hR0 B0 hg0 SZ RZ OZ BZ HZ sZ
 go_loopw [6, 7] (fun _ _ wr => ∃ (left : Lit → Bool) (cnt j : Nat) (D2 : DataW Unit), wr.ranges Tryz.prog 112 ZQ3 b (w.heap.size + 2) n D left cnt ∧ j + 2 * cnt ≤ 2 * n ∧ Hid (SumD wr (w.heap.size + 3) wr.heap.size (w.heap.size + 1) j (KK + 5) (2 * (KK + 5) + 1) (XD1 C c0 k (dnF kf left)) D2) ∧
     Hid (∀ s l,s<2 ^ k->dnF kf left (kyS C s k)=true->(keyOf Tryz.prog 112 (tiV (tA C k (kyS C s k)))=some l->Maps.has D2 l=true)/\(keyOf Tryz.prog 112 (tiV (tB C k (kyS C s k)))=some l->Maps.has D2 l=true))/\Hid (wr.heap[w.heap.size]?=some (.cells #[.int .i64 (a0:Nat),.int .i64 (a1:Nat),.int .i64 (a2:Nat),.int .i64 (a3:Nat)] 116 (0,0)))/\Hid (Below w.heap.size w wr)/\w.heap.size+3<=wr.heap.size)
  (fun _ _ wr=>wr.rangeLeft b (w.heap.size+2))
 case atStart=>
  exact ⟨_, _, 0, _, hrg0, by omega, HS0.out, (fun s l hs hd => by
   obtain⟨l',hl'⟩:=keyT (QF5 C s k)
   rw[Qj6 ((HKF.out _).trans hl'),HCV.out s l' hs hl']at hd
   cases hd),HR0.out,HB0.out,by omega⟩
 case round=>
  clear hrg0 hs0 HS0 HR0 HB0
  rename World=>W1
  obtain⟨left,cnt,j,D2,hrg,hj,hSM,hCV2,hRW,hBW,hsW⟩:=hrel
  go_wp2_with (first
   |(at_next;refine wpList_next_ranges _ rfl _ rfl 112 lawT ZQ3 (fun v:Value=>v) (fun c:Nat=>Value.map (some c)) (fun key _ _=>⟨key,rfl⟩) (fun v y hv=>by obtain⟨c,e,-⟩:=Qj9 hv;exact⟨c,e⟩) b (w.heap.size+2) n _ _ _ rfl hrg ?_ ?_)
   |go_in)
  · intro hc0' hl0
    go_wp2
    go_ret
    have hall:∀ T,GoodK T->dnF kf left T=true:=fun T hT=>by
     obtain⟨l,hl⟩:=keyT hT
     rw[Qj6 ((HKF.out _).trans hl),hl0];rfl
    refine⟨w.heap.size+1,D2,rfl,(hSM.out.congr fun U _=>ZZ9 C c0 k U fun s _=>hall _ (QF5 C s k)).mono (Nat.zero_le _) (Nat.le_refl _) (by omega) (Nat.le_refl _) (Nat.le_refl _),fun s l hs hl=>?_,hBW.out⟩
    rw[Nat.pow_succ]at hs
    by_cases hlt:s<2 ^ k
    · rw[XQ1,if_neg (by rw[Zw4 hlt];decide)]at hl
      exact(hCV2.out s l hlt (hall _ (QF5 C s k))).2 hl
    · obtain⟨s',rfl⟩:∃ s',s=2 ^ k+s':=⟨s - 2 ^ k,by omega⟩
      have hs':s'<2 ^ k:=by omega
      rw[XQ1,if_pos (Zx6 hs'),ZX6 C (Nat.le_refl k)]at hl
      exact(hCV2.out s' l hs' (hall _ (QF5 C s' k))).1 hl
  · intro x c kl yd yp w1 cnt1 hkey hlk hRy hat hrg1 hlt hg1 hs1 hen
    have hhas:=Maps.has_true_of_atKey hat
    obtain⟨T,hGT,hkT⟩:=HS.out.keys kl hhas
    have ex:x=.agg (tiA T):=lawT.inj hkey hkT
    subst ex
    obtain⟨c',k1,-,k3⟩:=HS.out.vals T kl hGT hkT hhas
    have ec:c=c':=by
     obtain⟨c2,g1,g2⟩:=Qj9 hRy
     have:=(hat .nil).symm.trans (k1 .nil)
     have g3:yd=.lit (.int .i64 (c2:Nat)):=congrArg Prod.fst g2
     rw[g3]at this
     simp only[DataW.lit.injEq,Lit.int.injEq,true_and]at this
     have g1':c=c2:=by injection g1 with g1;exact Option.some.inj g1
     omega
    subst ec
    have HWC:=QQ2 k3
    have HGT:=QQ2 hGT
    have HKT:=QQ2 hkT
    have HLK:=QQ2 hlk
    have HLT:=QQ2 hlt
    have hl1:=hrg1.lt
    have hs1':W1.heap.size<=w1.heap.size:=Nat.le_of_eq hs1.symm
    clear hs1
    have hsm1:=hSM.out.kept hg1 (by omega) (by omega)
    have hrw1:=(hg1.block _ (by omega) (fun e=>by have:=Option.some.inj e;omega)).trans hRW.out
    have hbw1:Below w.heap.size w w1:=hBW.out.grown hg1 hBW.out.size (fun j hj=>by cases hj;omega)
    have hzr:(w1.alloc (.cells #[Value.int .i64 0,Value.int .i64 0,Value.int .i64 0,Value.int .i64 0,Value.int .i64 0,Value.int .i64 0,Value.int .i64 0,Value.int .i64 0,Value.int .i64 0,Value.int .i64 0,Value.int .i64 0,Value.int .i64 0,Value.int .i64 0,Value.int .i64 0,Value.int .i64 0,Value.int .i64 0,Value.int .i64 0,Value.int .i64 0,Value.int .i64 0,Value.int .i64 0,Value.int .i64 0,Value.int .i64 0,Value.int .i64 0,Value.int .i64 0,Value.int .i64 0,Value.int .i64 0] 112)).heap[w1.heap.size]?=some (.cells (tiA zeK) 112 (0,0)):=heap_alloc_new _ _
    obtain⟨g6,hg6⟩:∃ g,w1.heap.size=g:=⟨_,rfl⟩
    obtain⟨X,hX⟩:∃ X,(w1.alloc (.cells #[Value.int .i64 0,Value.int .i64 0,Value.int .i64 0,Value.int .i64 0,Value.int .i64 0,Value.int .i64 0,Value.int .i64 0,Value.int .i64 0,Value.int .i64 0,Value.int .i64 0,Value.int .i64 0,Value.int .i64 0,Value.int .i64 0,Value.int .i64 0,Value.int .i64 0,Value.int .i64 0,Value.int .i64 0,Value.int .i64 0,Value.int .i64 0,Value.int .i64 0,Value.int .i64 0,Value.int .i64 0,Value.int .i64 0,Value.int .i64 0,Value.int .i64 0,Value.int .i64 0] 112)).setRow w1.heap.size (tiA T)=X:=⟨_,rfl⟩
    have hTX:TiAt X w1.heap.size T:=by
     rw[<-hX]
     exact TiAt.row (T:=zeK) hzr
    have hbX:Below w1.heap.size w1 X:=by rw[<-hX];exact QJ5 ((Below.refl _ _).alloc (Nat.le_refl _) _) (Nat.le_refl _)
    have HZR:=QQ2 hzr
    have HX:=QQ2 hX
    have HTA:=hidB (show TiAt X g6 T by rw[<-hg6];exact hTX)
    have HBXA:=hidB (hbw1.trans (hbX.mono (by omega)))
    have HRA:=hidB ((hbX.block _ (by omega)).trans hrw1)
    have HSMA:=hidB ((hsm1.on hbX (by omega)).mono (Nat.le_refl _) hbX.size (Nat.le_refl _) (Nat.le_refl _) (Nat.le_refl _))
    have HRNA:=hidB (hrg1.kept (grown_below hbX none) (by simp) (by simp))
    have hg6l:w.heap.size+3<=g6:=by omega
    have hsX:w.heap.size+3<=X.heap.size:=by have:=hbX.size;omega
    have HG6E:=QQ2 hg6
    clear hg6 hTX hbX hzr hX hsm1 hrw1 hbw1 k1 k3 hGT hkT hkey hRy hhas hlk
    go_upto_region 5 with (first
     |(refine wpList_store_row rfl 112 _ _ rfl w1.heap.size _ rfl rfl 112 _ HZR.out (QJ8 HGT.out) (by rw[QK2 HGT.out,QK2 Qf2]) (QC7 _) ?_))
    rw[HX.out,HG6E.out]
    obtain⟨jjA,hjjA⟩:∃ X,j=X:=⟨_,rfl⟩
    obtain⟨DDA,hDDA⟩:∃ X,D2=X:=⟨_,rfl⟩
    obtain⟨VVA,hVVA⟩:∃ X,XD1 C c0 k (dnF kf left)=X:=⟨_,rfl⟩
    have HVE:=QQ2 hVVA
    have HVBA:Hid (∀ y,(VVA (t4 T a0 a1 a2 a3) y).natAbs<=1000000000000000000):=fun y=>by rw[<-hVVA];exact Nat.le_trans (HUB.out _ _ y) (by decide)
    have HDX:Hid (∀ (e:Int) (c:Nat),c<=2->∀ y,(dlN c (shA e (mS C c0 k T)) y).natAbs<=1000000000000000000):=fun e c hc y=>Nat.le_trans (HDS.out T e c hc y) (by decide)
    rw[hVVA,hDDA,hjjA]at HSMA
    clear hVVA
    have HQA:Hid (∀ W,Below X.heap.size X W->(fun U:World=>TiAt U g6 T/\U.heap[w.heap.size]?=some (.cells #[.int .i64 (a0:Nat),.int .i64 (a1:Nat),.int .i64 (a2:Nat),.int .i64 (a3:Nat)] 116 (0,0))) W):=fun W hW=>⟨HTA.out.on hW HTA.out.lt,(hW.block _ (Array.getElem?_eq_some_iff.1 HRA.out).1).trans HRA.out⟩
    have HDA:Hid (Below X.heap.size X X.drew):=(Below.refl _ _).drew
    go_upto_region 5 with(fail)
    refine rhd HQA HDA.out (fun hHeld=>?_)
    refine tq 16 0 (h:=?_)
    refine tq 17 1 (hy:=fun W hW=>Qd1 112 _ rfl g6 rfl 112 _ (0,0) _ hW.1 Tryz.underlying112 rfl (QJ8 HGT.out)) (h:=?_)
    refine tq 18 2 (h:=?_)
    refine tq 22 7 (hy:=fun W hW=>Qd1 116 _ rfl w.heap.size rfl 116 _ (0,0) _ hW.2 Tryz.underlying116 rfl (by kernel_rfl)) (h:=?_)
    simp only[List.setIfInBounds_toArray,List.set_cons_succ,List.set_cons_zero]
    clear hHeld
    obtain⟨u2A,hinsA,hwkA,hb2A⟩:=Xq6 X.drew 1 1 1 (by decide) (by decide) (Or.inl rfl)
    rw[show X.drew.heap.size=X.heap.size from rfl]at hinsA hwkA
    rw[show X.drew.alloc (.map #[] 0)=(X.alloc (.map #[] 0)).drew from rfl]at hinsA
    have HLA:=QQ2 hwkA
    have HUA:=QQ2 (HDA.out.trans (hb2A.mono HDA.out.size))
    have HMA:Hid (Below X.heap.size X (X.drew.alloc (.map #[] 0))):=HDA.out.alloc HDA.out.size _
    clear hwkA hb2A
    refine rd1 3 ?_
    intro K0 hK0
    have hmk:=mkW
    go_simp
    refine hK0.out _ _ (HQA.out _ HMA.out) (fun _=>?_)
    clear hK0 K0 hmk
    try simp only[Act.put]
    try simp only[List.getElem_toArray]
    try simp only[List.getElem_cons_succ]
    try simp only[List.getElem_cons_zero]
    try simp only[List.setIfInBounds_toArray,List.set_cons_succ,List.set_cons_zero]
    refine rd1 4 ?_
    intro K0 hK0
    go_simp
    refine hK0.out _ _ (HQA.out _ HUA.out) (fun hHeld=>?_)
    clear hK0 K0 hinsA
    try simp only[Act.put]
    try simp only[List.getElem_toArray]
    try simp only[List.getElem_cons_succ]
    try simp only[List.getElem_cons_zero]
    try      refine tq 20 5 (h:=?_)
    simp only[List.setIfInBounds_toArray,List.set_cons_succ,List.set_cons_zero]
    clear hHeld
    have BUA:=hidB (HBXA.out.trans (HUA.out.mono HBXA.out.size))
    have HTMA:=QQ2 (QY1 (.map (some c)) (.map (some X.heap.size)) (2*KK+1) 1 KK 1 (2 ^ (c0+3*k)) 1 [(1,1)] (mS C c0 k T) (coefL [(1,1)]) u2A (by omega) (by omega) (by omega) HH1.out (fun y=>Kh2 C c0 k T y) (Kq8 1) ((HWC.out.on BUA.out).mono BUA.out.size (Nat.le_refl _) (Nat.le_refl _)) HLA.out (by simp) (fun y=>rfl))
    refine rd1 6 ?_
    intro K0 hK0
    go_simp
    go_wp2_with (go_at_call 22;refine HTMA.out.mono ?_;rintro e9 t4A ⟨rfl,hw4,hb4⟩)
    have HB4A:=QQ2 (HUA.out.trans (hb4.mono HUA.out.size))
    rw[KC2]at hw4
    have HW4A:=QQ2 hw4
    clear hb4 hw4 HTMA
    refine hK0.out _ _ (HQA.out _ HB4A.out) (fun _=>?_)
    clear hK0 K0
    try simp only[Act.put]
    try simp only[List.getElem_toArray]
    try simp only[List.getElem_cons_succ]
    try simp only[List.getElem_cons_zero]
    try simp only[List.setIfInBounds_toArray,List.set_cons_succ,List.set_cons_zero]
    have BWA:=hidB (HBXA.out.trans (HB4A.out.mono HBXA.out.size))
    have hsmA:=(HSMA.out.on HB4A.out HSMA.out.own.lt).mono (Nat.le_refl _) HB4A.out.size (Nat.le_refl _) (Nat.le_refl _) (Nat.le_refl _)
    have HADA:=QQ2 (JF8 (w.heap.size+3) (w.heap.size+1) jjA (KK+5) (2*(KK+1)+1) (KK+1) (2 ^ (c0+3*k)) VVA DDA T (shA 1 (mS C c0 k T)) u2A.heap.size a0 a1 a2 a3 t4A HGT.out (by omega) (by omega) (by omega) (by omega) (HRG.out.on BWA.out HRG.out.lt) (by have:=HB4A.out.size;omega) (by omega) (by omega) (by omega) (by omega) (by omega) hsmA HW4A.out HH2.out (fun y=>Kh2 C c0 k T (y-1)) HVBA.out (fun y=>HDX.out 1 _ (XD5 _ _ _ _ _) y))
    clear hsmA
    refine rd1 8 ?_
    intro K0 hK0
    go_simp
    go_wp2_with (go_at_call 81;refine HADA.out.mono ?_;rintro e9 v5A ⟨rfl,D5A,hs5,hg5,hk5,hm5⟩)
    have HS5A:=QQ2 hs5
    have HG5A:=QQ2 hg5
    have HK5A:=QQ2 hk5
    have HM5A:=QQ2 hm5
    have hlb:w.heap.size+3<=t4A.heap.size:=by have:=HB4A.out.size;omega
    have HT5A:Hid (TiAt v5A g6 T):=(hg5.block _ (HQA.out _ HB4A.out).1.lt (fun e=>by have:=Option.some.inj e;omega)).trans (HQA.out _ HB4A.out).1
    have HR5A:Hid (v5A.heap[w.heap.size]?=some (.cells #[.int .i64 (a0:Nat),.int .i64 (a1:Nat),.int .i64 (a2:Nat),.int .i64 (a3:Nat)] 116 (0,0))):=(hg5.block _ (by omega) (fun e=>by have:=Option.some.inj e;omega)).trans (HQA.out _ HB4A.out).2
    have HX5A:Hid (Below w.heap.size w v5A):=BWA.out.grown hg5 BWA.out.size (fun j hj=>by cases hj;omega)
    have hsz5:=hg5.size
    have HN5A:Hid (v5A.ranges Tryz.prog 112 ZQ3 b (w.heap.size+2) n D (fun z=>left z&&!z.sameKey kl) cnt1):=((HRNA.out.kept (grown_below HB4A.out none) (by simp) (by simp)).kept hg5 (fun e=>by have:=Option.some.inj e;omega) (fun e=>by have:=Option.some.inj e;omega))
    clear hs5 hg5 hk5 hm5 HADA
    refine hK0.out _ _ ⟨HT5A.out,HR5A.out⟩ (fun _=>?_)
    clear hK0 K0
    try simp only[Act.put]
    try simp only[List.getElem_toArray]
    try simp only[List.getElem_cons_succ]
    try simp only[List.getElem_cons_zero]
    try simp only[List.setIfInBounds_toArray,List.set_cons_succ,List.set_cons_zero]
    refine wpAnyH_done (by kernel_rfl) ?_ _
    obtain⟨jjB,hjjB⟩:∃ X,jjA+1=X:=⟨_,rfl⟩
    obtain⟨VVB,hVVB⟩:∃ X:List Nat->Int->Int,(fun U=>if U=t4 T a0 a1 a2 a3 then(fun y=>VVA U y+dlN (c4 T a0 a1 a2 a3) (shA 1 (mS C c0 k T)) y) else VVA U)=X:=⟨_,rfl⟩
    have HVF:=QQ2 hVVB
    have HVBB:Hid (∀ y,(VVB (t4 T a1 a2 a3 a0) y).natAbs<=1000000000000000000):=fun y=>by
     rw[<-hVVB,<-HVE.out]
     have u:=HUB.out (dnF kf left) (t4 T a1 a2 a3 a0) y
     have v:=HDS.out T 1 (c4 T a0 a1 a2 a3) (XD5 _ _ _ _ _) y
     have v2:=Int.natAbs_add_le (XD1 C c0 k (dnF kf left) (t4 T a1 a2 a3 a0) y) (dlN (c4 T a0 a1 a2 a3) (shA 1 (mS C c0 k T)) y)
     have d1:(2:Nat) ^ 52=4503599627370496:=by decide
     have d2:(2:Nat) ^ 51=2251799813685248:=by decide
     by_cases e:t4 T a1 a2 a3 a0=t4 T a0 a1 a2 a3
     · show((if t4 T a1 a2 a3 a0=t4 T a0 a1 a2 a3 then(fun y=>XD1 C c0 k (dnF kf left) (t4 T a1 a2 a3 a0) y+dlN (c4 T a0 a1 a2 a3) (shA 1 (mS C c0 k T)) y) else XD1 C c0 k (dnF kf left) (t4 T a1 a2 a3 a0)) y).natAbs<=_
       rw[if_pos e]
       omega
     · show((if t4 T a1 a2 a3 a0=t4 T a0 a1 a2 a3 then(fun y=>XD1 C c0 k (dnF kf left) (t4 T a1 a2 a3 a0) y+dlN (c4 T a0 a1 a2 a3) (shA 1 (mS C c0 k T)) y) else XD1 C c0 k (dnF kf left) (t4 T a1 a2 a3 a0)) y).natAbs<=_
       rw[if_neg e]
       omega
    rw[hVVB,hjjB]at HS5A
    clear hVVB
    have hsY:w.heap.size+3<=v5A.heap.size:=by omega
    have HQB:Hid (∀ W,Below v5A.heap.size v5A W->(fun U:World=>TiAt U g6 T/\U.heap[w.heap.size]?=some (.cells #[.int .i64 (a0:Nat),.int .i64 (a1:Nat),.int .i64 (a2:Nat),.int .i64 (a3:Nat)] 116 (0,0))) W):=fun W hW=>⟨HT5A.out.on hW HT5A.out.lt,(hW.block _ (Array.getElem?_eq_some_iff.1 HR5A.out).1).trans HR5A.out⟩
    have HDB:Hid (Below v5A.heap.size v5A v5A.drew):=(Below.refl _ _).drew
    go_upto_region 6 with(fail)
    refine rhd HQB HDB.out (fun hHeld=>?_)
    refine tq 24 0 (h:=?_)
    refine tq 25 1 (hy:=fun W hW=>Qd1 112 _ rfl g6 rfl 112 _ (0,0) _ hW.1 Tryz.underlying112 rfl (QJ8 HGT.out)) (h:=?_)
    refine tq 26 2 (h:=?_)
    refine tq 30 7 (hy:=fun W hW=>Qd1 116 _ rfl w.heap.size rfl 116 _ (0,0) _ hW.2 Tryz.underlying116 rfl (by kernel_rfl)) (h:=?_)
    simp only[List.setIfInBounds_toArray,List.set_cons_succ,List.set_cons_zero]
    clear hHeld
    obtain⟨u2B,hinsB,hwkB,hb2B⟩:=Xq6 v5A.drew (-1) 1 1 (by decide) (by decide) (Or.inl rfl)
    rw[show v5A.drew.heap.size=v5A.heap.size from rfl]at hinsB hwkB
    rw[show v5A.drew.alloc (.map #[] 0)=(v5A.alloc (.map #[] 0)).drew from rfl]at hinsB
    have HLB:=QQ2 hwkB
    have HUB:=QQ2 (HDB.out.trans (hb2B.mono HDB.out.size))
    have HMB:Hid (Below v5A.heap.size v5A (v5A.drew.alloc (.map #[] 0))):=HDB.out.alloc HDB.out.size _
    clear hwkB hb2B
    refine rd1 3 ?_
    intro K0 hK0
    have hmk:=mkW
    go_simp
    refine hK0.out _ _ (HQB.out _ HMB.out) (fun _=>?_)
    clear hK0 K0 hmk
    try simp only[Act.put]
    try simp only[List.getElem_toArray]
    try simp only[List.getElem_cons_succ]
    try simp only[List.getElem_cons_zero]
    try simp only[List.setIfInBounds_toArray,List.set_cons_succ,List.set_cons_zero]
    refine rd1 4 ?_
    intro K0 hK0
    go_simp
    refine hK0.out _ _ (HQB.out _ HUB.out) (fun hHeld=>?_)
    clear hK0 K0 hinsB
    try simp only[Act.put]
    try simp only[List.getElem_toArray]
    try simp only[List.getElem_cons_succ]
    try simp only[List.getElem_cons_zero]
    try      refine tq 28 5 (h:=?_)
    simp only[List.setIfInBounds_toArray,List.set_cons_succ,List.set_cons_zero]
    clear hHeld
    have BUB:=hidB (HX5A.out.trans (HUB.out.mono HX5A.out.size))
    have HTMB:=QQ2 (QY1 (.map (some c)) (.map (some v5A.heap.size)) (2*KK+1) 1 KK 1 (2 ^ (c0+3*k)) 1 [((-1),1)] (mS C c0 k T) (coefL [((-1),1)]) u2B (by omega) (by omega) (by omega) HH1.out (fun y=>Kh2 C c0 k T y) (Kq8 (-1)) ((HWC.out.on BUB.out).mono BUB.out.size (Nat.le_refl _) (Nat.le_refl _)) HLB.out (by simp) (fun y=>rfl))
    refine rd1 6 ?_
    intro K0 hK0
    go_simp
    go_wp2_with (go_at_call 22;refine HTMB.out.mono ?_;rintro e9 t4B ⟨rfl,hw4,hb4⟩)
    have HB4B:=QQ2 (HUB.out.trans (hb4.mono HUB.out.size))
    rw[KC2]at hw4
    have HW4B:=QQ2 hw4
    clear hb4 hw4 HTMB
    refine hK0.out _ _ (HQB.out _ HB4B.out) (fun _=>?_)
    clear hK0 K0
    try simp only[Act.put]
    try simp only[List.getElem_toArray]
    try simp only[List.getElem_cons_succ]
    try simp only[List.getElem_cons_zero]
    try simp only[List.setIfInBounds_toArray,List.set_cons_succ,List.set_cons_zero]
    have BWB:=hidB (HX5A.out.trans (HB4B.out.mono HX5A.out.size))
    have hsmB:=(HS5A.out.on HB4B.out HS5A.out.own.lt).mono (Nat.le_refl _) HB4B.out.size (Nat.le_refl _) (Nat.le_refl _) (Nat.le_refl _)
    have HADB:=QQ2 (JF7 (w.heap.size+3) (w.heap.size+1) jjB (KK+5) (2*(KK+1)+1) (KK+1) (2 ^ (c0+3*k)) VVB D5A T (shA (-1) (mS C c0 k T)) u2B.heap.size a0 a1 a2 a3 t4B HGT.out (by omega) (by omega) (by omega) (by omega) (HRG.out.on BWB.out HRG.out.lt) (by have:=HB4B.out.size;omega) (by omega) (by omega) (by omega) (by omega) (by omega) hsmB HW4B.out HH2.out (fun y=>Kh2 C c0 k T (y-(-1))) HVBB.out (fun y=>HDX.out (-1) _ (XD5 _ _ _ _ _) y))
    clear hsmB
    refine rd1 8 ?_
    intro K0 hK0
    go_simp
    go_wp2_with (go_at_call 81;refine HADB.out.mono ?_;rintro e9 v5B ⟨rfl,D5B,hs5,hg5,hk5,hm5⟩)
    have HS5B:=QQ2 hs5
    have HG5B:=QQ2 hg5
    have HK5B:=QQ2 hk5
    have HM5B:=QQ2 hm5
    have hlb:w.heap.size+3<=t4B.heap.size:=by have:=HB4B.out.size;omega
    have HT5B:Hid (TiAt v5B g6 T):=(hg5.block _ (HQB.out _ HB4B.out).1.lt (fun e=>by have:=Option.some.inj e;omega)).trans (HQB.out _ HB4B.out).1
    have HR5B:Hid (v5B.heap[w.heap.size]?=some (.cells #[.int .i64 (a0:Nat),.int .i64 (a1:Nat),.int .i64 (a2:Nat),.int .i64 (a3:Nat)] 116 (0,0))):=(hg5.block _ (by omega) (fun e=>by have:=Option.some.inj e;omega)).trans (HQB.out _ HB4B.out).2
    have HX5B:Hid (Below w.heap.size w v5B):=BWB.out.grown hg5 BWB.out.size (fun j hj=>by cases hj;omega)
    have hsz5:=hg5.size
    have HN5B:Hid (v5B.ranges Tryz.prog 112 ZQ3 b (w.heap.size+2) n D (fun z=>left z&&!z.sameKey kl) cnt1):=((HN5A.out.kept (grown_below HB4B.out none) (by simp) (by simp)).kept hg5 (fun e=>by have:=Option.some.inj e;omega) (fun e=>by have:=Option.some.inj e;omega))
    clear hs5 hg5 hk5 hm5 HADB
    refine hK0.out _ _ ⟨HT5B.out,HR5B.out⟩ (fun _=>?_)
    clear hK0 K0
    try simp only[Act.put]
    try simp only[List.getElem_toArray]
    try simp only[List.getElem_cons_succ]
    try simp only[List.getElem_cons_zero]
    try simp only[List.setIfInBounds_toArray,List.set_cons_succ,List.set_cons_zero]
    refine wpAnyH_done (by kernel_rfl) ?_ _
    go_wp2
    go_roundw
    case rel=>
     refine⟨_,cnt1,jjB+1,D5B,HN5B.out,by omega,HS5B.out.congr (fun U _=>?_),fun s l hs hd=>?_,HR5B.out,HX5B.out,by omega⟩
     · funext y
       have hst:=Xx5 C c0 k U T (dn:=dnF kf left) (dn':=dnF kf (fun z=>left z&&!z.sameKey kl)) (by rw[Qj6 ((HKF.out _).trans HKT.out),HLK.out];rfl) (fun s=>XH2 HKF.out HKT.out _ (QF5 C s k)) y
       rw[(HA.out T).1,(HA.out T).2.1,(HA.out T).2.2.1,(HA.out T).2.2.2]at hst
       rw[hst,<-HVF.out,<-HVE.out]
       by_cases q1:U=t4 T a0 a1 a2 a3<;>by_cases q2:U=t4 T a1 a2 a3 a0
       · simp only[<-q1,<-q2,if_true]
       · have q2':¬ t4 T a1 a2 a3 a0=U:=fun e=>q2 e.symm
         simp only[if_neg q2,if_neg q2',if_pos q1,if_pos q1.symm];omega
       · have q1':¬ t4 T a0 a1 a2 a3=U:=fun e=>q1 e.symm
         simp only[if_neg q1,if_neg q1',if_pos q2,if_pos q2.symm];omega
       · have q1':¬ t4 T a0 a1 a2 a3=U:=fun e=>q1 e.symm
         have q2':¬ t4 T a1 a2 a3 a0=U:=fun e=>q2 e.symm
         simp only[if_neg q1,if_neg q2,if_neg q1',if_neg q2'];omega
     · rcases(XH2 HKF.out HKT.out _ (QF5 C s k)).1 hd with h|h
       · exact⟨fun hl=>HM5B.out l (HM5A.out l (hDDA▸(hCV2.out s l hs h).1 hl)),fun hl=>HM5B.out l (HM5A.out l (hDDA▸(hCV2.out s l hs h).2 hl))⟩
       · rw[h,(HA.out T).1,(HA.out T).2.2.1]
         exact⟨fun hl=>HM5B.out l (HK5A.out l hl),fun hl=>HK5B.out l hl⟩
    case measure=>rw[HN5B.out.left_eq,hrg.left_eq];exact HLT.out
end Go.Proofs.YtookanmeflbdlaaGreatDoor.Poly
/- The walk of bracket.sums.all. -/
namespace Go.Proofs.YtookanmeflbdlaaGreatDoor.Poly
open Go.RowKit Go.Maps
set_option maxHeartbeats 8000000
set_option maxRecDepth 100000
theorem WkV.kept {W W':World} {c n K g:Nat} {f:Int->Int} (h:WkV W W.heap.size (.map (some c)) n K f) (hg:W.grownBy W' (some g)) (hc:c≠g):WkV W' W'.heap.size (.map (some c)) n K f:=by
 rcases h with⟨e,-⟩|⟨c',D',e,hlt,ho,hk,hcf⟩
 · cases e
 · cases e
   exact Or.inr ⟨c,D',rfl,Nat.lt_of_lt_of_le hlt hg.size,ho.kept hg (fun e=>hc (Option.some.inj e)),hk,hcf⟩
theorem Kg2 (C : List Cr) (c0 k b n KK : Nat) (D : DataW Unit) (w : World) (hc0 : c0 ≤ 16) (hk : k ≤ 12) (hKb : KK ≤ 92) (hS : SumD w 0 w.heap.size b n KK (2 * KK + 1) (mS C c0 k) D) (hcv : ∀ s l, s < 2 ^ k → keyOf Tryz.prog 112 (tiV (kyS C s k)) = some l → Maps.has D l = true) :
    Calls Tryz.prog 65 #[.map (some b)] w fun e w'=>∃ c:Nat,e=.returned (.map (some c))/\WkV w' w'.heap.size (.map (some c)) (2*KK+1) KK (JU0 C c0 k)/\Below w.heap.size w w':=by
 have hbw:=hS.own.lt
 have hp52:2 ^ (c0+3*k)<=2 ^ 52:=Nat.pow_le_pow_right (by omega) (by omega)
 have HMB:Hid (∀ T y,(mS C c0 k T y).natAbs<=1000000000000000000):=fun T y=>Nat.le_trans (Kh2 C c0 k T y) (Nat.le_trans hp52 (by decide))
 have HUB:Hid (∀ (dn:List Nat->Bool) (y:Int),(ZC7 C c0 k dn y).natAbs<=1000000000000000000):=fun dn y=>Nat.le_trans (Zw7 C c0 k dn y) (Nat.le_trans hp52 (by decide))
 obtain⟨kf,hkf⟩:∃ kf:List Nat->Option Lit,∀ T,kf T=keyOf Tryz.prog 112 (tiV T):=⟨_,fun _=>rfl⟩
 have HKF:=QQ2 hkf
 have HS:=QQ2 hS
 have HCV:=QQ2 hcv
 have hmm:=mkW
 clear hp52 hS hcv hkf
 obtain⟨Z,hZ⟩:∃ Z,Z=w.alloc (.map #[] 0):=⟨_,rfl⟩
 have HZ:=QQ2 hZ
 have sZ:Z.heap.size=w.heap.size+1:=by rw[hZ];simp
 have BZ:Hid (Below w.heap.size w Z):=(by rw[hZ];exact(Below.refl _ _).alloc (Nat.le_refl _) _:Below w.heap.size w Z)
 have WZ:Hid (Z.ownsMap Tryz.prog 3 (plainElem Tryz.prog 3) w.heap.size 0 (.map []:DataW Unit)):=(by rw[hZ];exact World.ownsMap_made _ _ _ _:Z.ownsMap Tryz.prog 3 (plainElem Tryz.prog 3) w.heap.size 0 (.map []:DataW Unit))
 have OZ:Hid (Z.ownsMap Tryz.prog 112 ZQ3 b n D):=(HS.out.on BZ.out hbw).own
 clear hZ
 go_enter Tryz.func65,Tryz.ntmps65
 go_upto_region 2 with(fail)
 rw[<-HZ.out]
 go_wp2_with (first
  |(at_range;refine wpList_range_own _ rfl _ 115 rfl 112 58 lawT Tryz.underlying115 ZQ3 b n _ rfl OZ.out ?_;intro w0 hrg0 hg0 hs0))
 try go_frame
 rw[sZ]at hrg0 hs0 ⊢
 have B0:Below w.heap.size w w0:=BZ.out.grown hg0 (by omega) (fun j hj=>by cases hj)
 have hW0:WkV w0 w0.heap.size (.map (some w.heap.size)) (2*KK+1) KK (ZC7 C c0 k (dnF kf (Maps.has D))):=by
  refine Or.inr ⟨_,.map [],rfl,by omega,(WZ.out.kept hg0 (by simp)).mono (Nat.zero_le _),(fun x hx=>by cases hx),fun y=>?_⟩
  rw[Xj9 C c0 k (fun s hs=>?_) y]
  · exact coefOf_none rfl
  · obtain⟨l,hl⟩:=keyT (QF5 C s k)
    rw[Qj6 ((HKF.out _).trans hl),HCV.out s l hs hl];rfl
 have HW0:=QQ2 hW0
 have HB0:=QQ2 B0
 clear hW0 B0 hg0 WZ OZ BZ HZ sZ
 go_loopw [3,5] (fun v _ wr=>∃ (left:Lit->Bool) (cnt q:Nat),v=.map (some q)/\wr.ranges Tryz.prog 112 ZQ3 b (w.heap.size+1) n D left cnt/\Hid (WkV wr wr.heap.size (.map (some q)) (2*KK+1) KK (ZC7 C c0 k (dnF kf left)))/\Hid (Below w.heap.size w wr)/\w.heap.size+2<=wr.heap.size/\q≠w.heap.size+1)
  (fun _ _ wr=>wr.rangeLeft b (w.heap.size+1))
 case atStart=>
  exact⟨_,_,w.heap.size,rfl,hrg0,HW0.out,HB0.out,by omega,by omega⟩
 case round=>
  clear hrg0 hs0 HW0 HB0
  rename World=>W1
  obtain⟨left,cnt,q,rfl,hrg,hWK,hBW,hsW,hqn⟩:=hrel
  go_wp2_with (first
   |(at_next;refine wpList_next_ranges _ rfl _ rfl 112 lawT ZQ3 (fun v:Value=>v) (fun c:Nat=>Value.map (some c)) (fun key _ _=>⟨key,rfl⟩) (fun v y hv=>by obtain⟨c,e,-⟩:=Qj9 hv;exact⟨c,e⟩) b (w.heap.size+1) n _ _ _ rfl hrg ?_ ?_)
   |go_in)
  · intro hc0' hl0
    go_wp2
    go_ret
    have hall:∀ T,GoodK T->dnF kf left T=true:=fun T hT=>by
     obtain⟨l,hl⟩:=keyT hT
     rw[Qj6 ((HKF.out _).trans hl),hl0];rfl
    refine⟨q,rfl,?_,hBW.out⟩
    have:=hWK.out
    rw[XA3 C c0 k fun s _=>hall _ (QF5 C s k)]at this
    exact this
  · intro x c kl yd yp w1 cnt1 hkey hlk hRy hat hrg1 hlt hg1 hs1 hen
    have hhas:=Maps.has_true_of_atKey hat
    obtain⟨T,hGT,hkT⟩:=HS.out.keys kl hhas
    obtain⟨c',k1,-,k3⟩:=HS.out.vals T kl hGT hkT hhas
    have ec:c=c':=by
     obtain⟨c2,g1,g2⟩:=Qj9 hRy
     have:=(hat .nil).symm.trans (k1 .nil)
     have g3:yd=.lit (.int .i64 (c2:Nat)):=congrArg Prod.fst g2
     rw[g3]at this
     simp only[DataW.lit.injEq,Lit.int.injEq,true_and]at this
     have g1':c=c2:=by injection g1 with g1;exact Option.some.inj g1
     omega
    subst ec
    have HKT:=QQ2 hkT
    have HLK:=QQ2 hlk
    have HLT:=QQ2 hlt
    have hbw1:Below w.heap.size w w1:=hBW.out.grown hg1 hBW.out.size (fun j hj=>by cases hj;omega)
    have hwk1:=hWK.out.kept hg1 hqn
    have hwc1:=(k3.on hbw1).mono hbw1.size (Nat.le_refl _) (Nat.le_refl _)
    have HPL:=QQ2 (QA0 (.map (some q)) (.map (some c)) (2*KK+1) (2*KK+1) KK _ (mS C c0 k T) w1 (by omega) (by omega) (by omega) (HUB.out _) (HMB.out T) hwk1 hwc1 (by simp))
    have HB1:=QQ2 hbw1
    have hs1':W1.heap.size<=w1.heap.size:=Nat.le_of_eq hs1.symm
    clear hs1 hwk1 hwc1 hbw1 k1 k3 hkey hRy hhas hlk hat hkT
    go_wp2_with (go_at_call 82;refine HPL.out.mono ?_;rintro e9 w5 ⟨rfl,hw5,hb5⟩)
    have hsz5:=hb5.size
    have hrg5:=hrg1.kept (grown_below hb5 none) (by simp) (by simp)
    have HW5:=QQ2 hw5
    have HB5:=QQ2 (HB1.out.trans (hb5.mono HB1.out.size))
    clear hw5 hb5
    go_roundw
    case rel=>
     refine⟨_,cnt1,w1.heap.size,rfl,hrg5,HW5.out.coef fun y=>?_,HB5.out,by omega,by omega⟩
     rw[Xj8 C c0 k T (dn:=dnF kf left) (by rw[Qj6 ((HKF.out _).trans HKT.out),HLK.out];rfl) (fun s=>XH2 HKF.out HKT.out _ (QF5 C s k)) y]
    case measure=>rw[hrg5.left_eq,hrg.left_eq];exact HLT.out
end Go.Proofs.YtookanmeflbdlaaGreatDoor.Poly
