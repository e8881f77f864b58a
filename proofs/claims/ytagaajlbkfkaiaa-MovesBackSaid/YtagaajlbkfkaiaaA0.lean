/- The diagram that all know, and that packages answer something: the walks of knotworkkeep's trefoil and awake. -/
import Derived.Test.YtagaajlbkfkaiaaC18P
import Derived.Test.YtagaajlbkfkaiaaF7P
import Derived.Test.YtagaajlbkfkaiaaR3
namespace Go.Proofs.Ytagaajlbkfkaiaa
open Go.RowKit
set_option maxHeartbeats 4000000
set_option maxRecDepth 100000
def trC:List Cr:=[⟨1,4,2,5,false⟩,⟨3,6,4,1,false⟩,⟨5,2,6,3,false⟩]
theorem trC_may:mayD trC 0=true:=by decide +kernel
theorem trC_faces:(QQ3 trC).length=5:=by decide +kernel
theorem trC_planar:QX1 trC=true:=by decide +kernel
theorem trC_walks:(walksM trC).length=1/\((walksM trC).getD 0 []).length=6:=by decide +kernel
theorem trC_form {K:List Cr} (h:IsForm trC K):K.length=3:=by
 have hV:Least (arcE trC) trC.length (whoM trC):=QZ9 (arcE_lt trC_may) _ (Nat.le_refl _)
 have hh:hdTo (whoM trC) trC.length=[0]:=by decide +kernel
 have hf:IsFormR trC (canGo trC [] (([0].map fun i=>(leT trC (wI (whoM trC)) ((hdTo (whoM trC) trC.length).getD i 0) trC.length).1).flatten)):=⟨whoM trC,[0],hV,by rw[hh];exact List.Perm.refl _,List.pairwise_singleton _ _,rfl⟩
 rw[form_one trC_may h hf]
 decide +kernel
theorem trefoil_any (w:World):Calls Try.prog 45 #[] w fun e w'=>∃ a c,e=.returned (.agg #[.slice a trC.length c,.int .i64 0])/\Crs w' w'.heap.size (.slice a trC.length c) trC/\Below w.heap.size w w':=by
 go_enter Try.func45,Try.ntmps45
 go_wp2
 have hb0:((w.alloc (.cells #[.slice (some ⟨w.heap.size+1,0,none⟩) 3 3,.int .i64 0] 24)).alloc (.cells #[.int .i64 1,.int .i64 4,.int .i64 2,.int .i64 5,.bool false,.int .i64 3,.int .i64 6,.int .i64 4,.int .i64 1,.bool false,.int .i64 5,.int .i64 2,.int .i64 6,.int .i64 3,.bool false] 71)).heap[w.heap.size]?=some (.cells #[.slice (some ⟨w.heap.size+1,0,none⟩) 3 3,.int .i64 0] 24 (0,0)):=alloc_old (alloc_at rfl)
 have hb1:((w.alloc (.cells #[.slice (some ⟨w.heap.size+1,0,none⟩) 3 3,.int .i64 0] 24)).alloc (.cells #[.int .i64 1,.int .i64 4,.int .i64 2,.int .i64 5,.bool false,.int .i64 3,.int .i64 6,.int .i64 4,.int .i64 1,.bool false,.int .i64 5,.int .i64 2,.int .i64 6,.int .i64 3,.bool false] 71)).heap[w.heap.size+1]?=some (.cells #[.int .i64 1,.int .i64 4,.int .i64 2,.int .i64 5,.bool false,.int .i64 3,.int .i64 6,.int .i64 4,.int .i64 1,.bool false,.int .i64 5,.int .i64 2,.int .i64 6,.int .i64 3,.bool false] 71 (0,0)):=alloc_at (by simp)
 have hbw:=QJ3 w (.cells #[.slice (some ⟨w.heap.size+1,0,none⟩) 3 3,.int .i64 0] 24) (.cells #[.int .i64 1,.int .i64 4,.int .i64 2,.int .i64 5,.bool false,.int .i64 3,.int .i64 6,.int .i64 4,.int .i64 1,.bool false,.int .i64 5,.int .i64 2,.int .i64 6,.int .i64 3,.bool false] 71)
 generalize (w.alloc (.cells #[.slice (some ⟨w.heap.size+1,0,none⟩) 3 3,.int .i64 0] 24)).alloc (.cells #[.int .i64 1,.int .i64 4,.int .i64 2,.int .i64 5,.bool false,.int .i64 3,.int .i64 6,.int .i64 4,.int .i64 1,.bool false,.int .i64 5,.int .i64 2,.int .i64 6,.int .i64 3,.bool false] 71)=X at hb0 hb1 hbw ⊢
 have x0:=QQ0 (i:=0) (v:=.slice (some ⟨w.heap.size+1,0,none⟩) 3 3) hb0 rfl
 have x1:=QQ0 (i:=1) (v:=.int .i64 0) hb0 rfl
 refine bodyPost_ret (v:=.agg #[.slice (some ⟨w.heap.size+1,0,none⟩) 3 3,.int .i64 0]) (by simp[results,Try.results45,go_sem,x0,x1]) rfl ⟨some ⟨w.heap.size+1,0,none⟩,3,rfl,?_,hbw⟩
 refine⟨_,_,rfl,by unfold maxLen;decide,fun _=>⟨w.heap.size+1,0,rfl,(Array.getElem?_eq_some_iff.1 hb1).1,fun i hi=>?_⟩⟩
 have hi3:i=0∨i=1∨i=2:=by have:i<3:=hi;omega
 rcases hi3 with rfl|rfl|rfl
 · exact⟨QQ0 hb1 rfl,QQ0 hb1 rfl,QQ0 hb1 rfl,QQ0 hb1 rfl,QQ0 hb1 rfl⟩
 · exact⟨QQ0 hb1 rfl,QQ0 hb1 rfl,QQ0 hb1 rfl,QQ0 hb1 rfl,QQ0 hb1 rfl⟩
 · exact⟨QQ0 hb1 rfl,QQ0 hb1 rfl,QQ0 hb1 rfl,QQ0 hb1 rfl,QQ0 hb1 rfl⟩
theorem faceRingsA:QK5:=fun a cap C loops gF cF gT cT w hm hD=>QK1 a cap C loops gF cF gT cT w hm hD
theorem awake_any (w:World):Calls Try.prog 17 #[] w fun e w'=>e=.returned (.bool true)/\Below w.heap.size w w':=by
 go_enter Try.func17,Try.ntmps17
 go_upto_region 2 with(go_at_call 45;refine(trefoil_any _).mono ?_;rintro e9 w1 ⟨a,c,rfl,hc,hb1⟩)
 obtain⟨X,hX⟩:∃ X,X=w1.alloc (.cells #[.slice a trC.length c,.int .i64 0] 24):=⟨_,rfl⟩
 rw[<-hX]
 have hsX:w1.heap.size<X.heap.size:=by rw[hX];simp
 have HT:=hidB (show X.heap[w1.heap.size]?=some (.cells #[.slice a trC.length c,.int .i64 0] 24 (0,0)) by rw[hX];exact alloc_at rfl)
 have HBW:=hidB (show Below w.heap.size w X by rw[hX];exact hb1.alloc hb1.size _)
 have HC:Hid (∀ w',Below X.heap.size X w'->Crs w' w'.heap.size (.slice a trC.length c) trC):=fun w' hb=>(hc.up (by rw[hX];exact(Below.refl _ _).alloc (Nat.le_refl _) _)).up hb
 have HF:Hid (∀ w',Below X.heap.size X w'->w'.cell? ⟨w1.heap.size,0,none⟩=some (.slice a trC.length c)/\w'.cell? ⟨w1.heap.size,1,none⟩=some (.int .i64 0)/\w1.heap.size<w'.heap.size):=fun w' hb=>by
  have g:=(hb.block _ hsX).trans HT.out
  exact⟨QQ0 g rfl,QQ0 g rfl,(Array.getElem?_eq_some_iff.1 g).1⟩
 clear hX hc hb1
 obtain⟨p0,p1,p2⟩:=HF.out X (Below.refl _ _)
 go_upto_region 3 with(go_at_call 46;refine(faces_yes faceRingsA _ trC 0 _ trC_may (HC.out _ (Below.refl _ _))).mono ?_;rintro e9 w2 ⟨r,rfl,hd,hb2⟩;obtain⟨ys,hl,hr,-⟩:=hd;rw[trC_faces]at hl;rw[hl]at hr;obtain⟨a2,c2,e2⟩:=QX5 hr;subst e2)
 have H2:=hidB hb2
 clear hb2 hr hl p0 p1 p2
 obtain⟨p0,p1,p2⟩:=HF.out w2 H2.out
 go_upto_region 4 with(go_at_call 18;refine(planar_yes faceRingsA _ trC 0 _ trC_may (HC.out _ H2.out)).mono ?_;rw[trC_planar];rintro e9 w3 ⟨rfl,hb3⟩)
 have H3:=hidB (H2.out.trans (hb3.mono H2.out.size))
 clear hb3 p0 p1 p2
 obtain⟨p0,p1,p2⟩:=HF.out w3 H3.out
 go_upto_region 5 with(go_at_call 47;refine(strands_yes _ trC 0 _ trC_may (HC.out _ H3.out)).mono ?_;rintro e9 w4 ⟨r4,rfl,hd4,hb4⟩;obtain⟨y4,hl4,hr4,hy4⟩:=hd4;rw[trC_walks.1]at hl4;rw[hl4]at hr4;obtain⟨a4,c4,e4⟩:=QX5 hr4;subst e4)
 have H4:=hidB (H3.out.trans (hb4.mono H3.out.size))
 obtain⟨g4,c4',e4,hg4,hg4s⟩:=own_block hr4 (by omega)
 injection e4 with e41 e42 e43
 clear e42 e43
 subst e41
 have q0:=hr4.cellAt 0 (by omega)
 have hy0:=hy4 0 (by rw[trC_walks.1];decide)
 rw[trC_walks.2]at hy0
 obtain⟨a5,c5,e5⟩:=QX5 hy0
 rw[show y4[0]?=some (y4.getD 0 (.bool false)) by rw[List.getD_eq_getElem?_getD,List.getElem?_eq_getElem (by omega)];rfl,e5]at q0
 have HQ0:=hidB q0
 clear hb4 p0 p1 p2 q0 hy0 e5 hy4 hr4 hl4
 obtain⟨p0,p1,p2⟩:=HF.out w4 H4.out
 go_upto_region 6 with(go_at_call 48;refine(canon_yes _ trC 0 _ trC_may (HC.out _ H4.out)).mono ?_;rintro e9 w6 ⟨r6,K,rfl,hK,hKc,hb6⟩;obtain⟨a6,c6,e6,-,-⟩:=hKc;rw[trC_form hK]at e6;subst e6)
 have H6:=hidB (H4.out.trans (hb6.mono H4.out.size))
 have HQ6:=hidB (bcell hb6 hg4s HQ0.out)
 have hs6:=hb6.size
 obtain⟨Y,hY⟩:∃ Y,Y=w6.alloc (.cells #[.slice a6 3 c6,.int .i64 0] 24):=⟨_,rfl⟩
 rw[<-hY]
 have hbY:Below w6.heap.size w6 Y:=by rw[hY];exact(Below.refl _ _).alloc (Nat.le_refl _) _
 have HY:=hidB (H6.out.trans (hbY.mono H6.out.size))
 have HTY:=hidB (show Y.heap[w6.heap.size]?=some (.cells #[.slice a6 3 c6,.int .i64 0] 24 (0,0)) by rw[hY];exact alloc_at rfl)
 have HQY:=hidB (bcell hbY (by omega) HQ6.out)
 have hgY:g4<Y.heap.size:=by have:=hbY.size;omega
 clear hY hbY hb6 hK p0 p1 p2
 obtain⟨p0,p1,p2⟩:=HF.out Y HY.out
 go_wp2_with (go_at_call 49;refine(codeMay_any _ trC 0 _ (HC.out _ HY.out)).mono ?_;rw[trC_may];rintro e9 w7 ⟨rfl,hb7⟩;refine Hid.out ?_)
 refine Lib.hid ?_
 have H7:=hidB (HBW.out.trans ((HY.out.trans (hb7.mono HY.out.size)).mono HBW.out.size))
 have q7:w7.cell? ⟨g4,0,none⟩=some (.slice a5 6 c5):=bcell hb7 hgY HQY.out
 have g7:=(hb7.block _ (Array.getElem?_eq_some_iff.1 HTY.out).1).trans HTY.out
 have t7:=QQ0 (i:=0) g7 rfl
 have l7:w6.heap.size<w7.heap.size:=(Array.getElem?_eq_some_iff.1 g7).1
 have m7:g4<w7.heap.size:=by have:=hb7.size;omega
 clear hb7 g7 p0 p1 p2
 go_wp2
 go_ret
 exact⟨rfl,H7.out⟩
end Go.Proofs.Ytagaajlbkfkaiaa
