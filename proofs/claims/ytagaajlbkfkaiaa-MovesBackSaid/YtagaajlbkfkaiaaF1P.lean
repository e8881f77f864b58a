/- Several texts of the proof, one behind the other. -/
import Derived.Test.YtagaajlbkfkaiaaG7P
import Derived.Test.YtagaajlbkfkaiaaH6P
import Derived.Test.YtagaajlbkfkaiaaP5P
import Derived.Test.YtagaajlbkfkaiaaW7P
/- The walks of Drawing.End, Drawing.Onward, way; ref.dartCode, ref.NextDart. -/
namespace Go.Proofs.Ytagaajlbkfkaiaa
open Go.RowKit
set_option maxHeartbeats 2000000
set_option maxRecDepth 100000
theorem Dr.endAt {w:World} {a:Option Addr} {cap:Nat} {C:List Cr} {gF gT:Nat} {loops:Int} (h:Dr w a cap C gF gT) (hm:mayD C loops=true) (x:Nat) (h1:1<=x) (h2:x<=2*C.length):
    w.cell? ⟨gT,x*2,none⟩=some (.int .i64 (enC C x true:Nat))/\w.cell? ⟨gT,x*2+1,none⟩=some (.int .i64 (enS C x true:Nat))/\w.cell? ⟨gF,x*2,none⟩=some (.int .i64 (enC C x false:Nat))/\w.cell? ⟨gF,x*2+1,none⟩=some (.int .i64 (enS C x false:Nat)):=by
 have hT:=h.to x (by rw[ends_length];omega)
 have hF:=h.from_ x (by rw[ends_length];omega)
 rw[ends_at C true C.length 0 x h1 h2,Nat.zero_add]at hT
 rw[ends_at C false C.length 0 x h1 h2,Nat.zero_add]at hF
 have e:endAh C x true C.length 0=endTo C x true C.length:=rfl
 have e2:endAh C x false C.length 0=endTo C x false C.length:=rfl
 rw[e,(en_may hm x true h1 h2).1]at hT
 rw[e2,(en_may hm x false h1 h2).1]at hF
 exact⟨hT.1,hT.2,hF.1,hF.2⟩
theorem end_any (a:Option Addr) (cap:Nat) (C:List Cr) (loops:Int) (gF cF gT cT:Nat) (x:Nat) (p:Bool) (w:World) (hm:mayD C loops=true) (h1:1<=x) (h2:x<=2*C.length) (hD:Dr w a cap C gF gT):
    Calls Try.prog 78 #[drV a cap C loops gF cF gT cT,.agg #[.int .i64 x,.bool p]] w fun e w'=>e=.returned (.agg #[.int .i64 (enC C x (!p):Nat),.int .i64 (enS C x (!p):Nat)])/\Below w.heap.size w w':=by
 unfold drV
 obtain⟨c0,c1,c2,c3⟩:=hD.endAt hm x h1 h2
 have l1:=hD.ltT
 have l2:=hD.ltF
 clear hD
 have hB3:Below w.heap.size w (((w.alloc (.cells #[.slice a C.length cap,.int .i64 loops,.slice (some ⟨gF,0,none⟩) (2*C.length+1) cF,.slice (some ⟨gT,0,none⟩) (2*C.length+1) cT] 61)).alloc (.cells #[.int .i64 x,.bool p] 26)).alloc (.cells #[.int .i64 0,.int .i64 0] 120)):=below3 _ _ _ _
 have d0:=bcell hB3 l1 c0
 have d1:=bcell hB3 l1 c1
 have d2:=bcell hB3 l2 c2
 have d3:=bcell hB3 l2 c3
 clear hB3 c0 c1 c2 c3
 obtain⟨t0,ht0⟩:∃ t0,enC C x true=t0:=⟨_,rfl⟩
 obtain⟨t1,ht1⟩:∃ t1,enS C x true=t1:=⟨_,rfl⟩
 obtain⟨f0,hf0⟩:∃ f0,enC C x false=f0:=⟨_,rfl⟩
 obtain⟨f1,hf1⟩:∃ f1,enS C x false=f1:=⟨_,rfl⟩
 rw[ht0]at d0
 rw[ht1]at d1
 rw[hf0]at d2
 rw[hf1]at d3
 have hx:x<2*C.length+1:=by omega
 cases p with
 |true=>
  have hG:(((w.alloc (.cells #[.slice a C.length cap,.int .i64 loops,.slice (some ⟨gF,0,none⟩) (2*C.length+1) cF,.slice (some ⟨gT,0,none⟩) (2*C.length+1) cT] 61)).alloc (.cells #[.int .i64 x,.bool true] 26)).alloc (.cells #[.int .i64 f0,.int .i64 f1] 120)).heap[w.heap.size+1+1]?=some (.cells #[.int .i64 f0,.int .i64 f1] 120 (0,0)):=alloc_at (by simp)
  have x0:=block_cell (i:=0) (v:=.int .i64 f0) hG rfl
  have x1:=block_cell (i:=1) (v:=.int .i64 f1) hG rfl
  have HB:=hidB (below3 _ _ _ _)
  clear hG
  go_enter Try.func78,Try.ntmps78
  go_wp2
  exact bodyPost_ret (v:=.agg #[.int .i64 f0,.int .i64 f1]) (by simp[results,Try.results78,go_sem,x0,x1]) rfl ⟨by simp[hf0,hf1],HB.out⟩
 |false=>
  have hG:(((w.alloc (.cells #[.slice a C.length cap,.int .i64 loops,.slice (some ⟨gF,0,none⟩) (2*C.length+1) cF,.slice (some ⟨gT,0,none⟩) (2*C.length+1) cT] 61)).alloc (.cells #[.int .i64 x,.bool false] 26)).alloc (.cells #[.int .i64 t0,.int .i64 t1] 120)).heap[w.heap.size+1+1]?=some (.cells #[.int .i64 t0,.int .i64 t1] 120 (0,0)):=alloc_at (by simp)
  have x0:=block_cell (i:=0) (v:=.int .i64 t0) hG rfl
  have x1:=block_cell (i:=1) (v:=.int .i64 t1) hG rfl
  have HB:=hidB (below3 _ _ _ _)
  clear hG
  go_enter Try.func78,Try.ntmps78
  go_wp2
  exact bodyPost_ret (v:=.agg #[.int .i64 t0,.int .i64 t1]) (by simp[results,Try.results78,go_sem,x0,x1]) rfl ⟨by simp[ht0,ht1],HB.out⟩
theorem way_any (x:Int) (p:Bool) (w:World):
    Calls Try.prog 94 #[.agg #[.int .i64 x,.bool p]] w fun e w'=>e=.returned (.int .i64 (if p=true then 1 else 0))/\Below w.heap.size w w':=by
 go_enter Try.func94,Try.ntmps94
 cases p with
 |true=>
  go_wp2
  go_ret
  exact⟨rfl,(Below.refl _ _).alloc (Nat.le_refl _) _⟩
 |false=>
  go_wp2
  go_ret
  exact⟨rfl,(Below.refl _ _).alloc (Nat.le_refl _) _⟩
end Go.Proofs.Ytagaajlbkfkaiaa
/- Plain mathematics: which labels are left, and their numbers, place by place. -/
namespace Go.Proofs.Ytagaajlbkfkaiaa
def stB (C:List Cr) (G:List Nat) (L:List Nat) (m v:Nat):Bool:=(List.range m).any fun a=>decide (L.getD a 0=v)&&!goneB C G a
theorem stB_iff {C:List Cr} {G L:List Nat} {m v:Nat}:stB C G L m v=true↔stP C G L m v:=by
 unfold stB stP
 rw[List.any_eq_true]
 constructor
 · rintro⟨a,ha,h⟩
   rw[Bool.and_eq_true,decide_eq_true_eq]at h
   exact⟨a,List.mem_range.1 ha,h.1,by simpa using h.2⟩
 · rintro⟨a,ha,h1,h2⟩
   exact⟨a,List.mem_range.2 ha,by rw[h2,decide_eq_true h1];rfl⟩
theorem stB_next (C:List Cr) (G L:List Nat) (m v:Nat):stB C G L (m+1) v=(stB C G L m v||(decide (L.getD m 0=v)&&!goneB C G m)):=by
 unfold stB
 rw[List.range_succ,List.any_append]
 simp
def stTo (C:List Cr) (G L:List Nat) (N m:Nat):List Bool:=(List.range N).map (stB C G L m)
theorem stTo_len (C:List Cr) (G L:List Nat) (N m:Nat):(stTo C G L N m).length=N:=by simp[stTo]
theorem stTo_at (C:List Cr) (G L:List Nat) (N m v:Nat) (hv:v<N):(stTo C G L N m).getD v true=stB C G L m v:=by simp[stTo,List.getD_eq_getElem?_getD,hv]
theorem stTo_zero (C:List Cr) (G L:List Nat) (N:Nat):List.replicate N false=stTo C G L N 0:=by
 refine List.ext_getElem (by simp[stTo]) fun j h1 h2=>?_
 simp[stTo,stB]
theorem stTo_next (C:List Cr) (G L:List Nat) (N m q:Nat) (hq:L.getD m 0=q) (b:Bool) (hb:b=(stB C G L m q||!goneB C G m)):(stTo C G L N m).set q b=stTo C G L N (m+1):=by
 refine List.ext_getElem (by simp[stTo]) fun j h1 h2=>?_
 simp only[List.getElem_set,stTo,List.getElem_map,List.getElem_range]
 rw[stB_next,hq]
 by_cases e:q=j
 · subst e;rw[if_pos rfl,hb];simp
 · rw[if_neg e];simp[e]
def ltB (L:List Nat) (t:Nat->Bool) (v:Nat):Bool:=decide (L.getD v 0=v)&&t v
def lfB (L:List Nat) (t:Nat->Bool) (v:Nat):Bool:=decide (L.getD v 0=v)&&!t v
def nmTo (L:List Nat) (P:Nat->Bool) (N j:Nat):List Nat:=(List.range N).map fun v=>if v<j/\1<=v then numM L P v else 0
theorem nmTo_len (L:List Nat) (P:Nat->Bool) (N j:Nat):(nmTo L P N j).length=N:=by simp[nmTo]
theorem nmTo_at (L:List Nat) (P:Nat->Bool) (N j v:Nat) (hv:v<N):(nmTo L P N j).getD v 0=if v<j/\1<=v then numM L P v else 0:=by simp[nmTo,List.getD_eq_getElem?_getD,hv]
theorem nmTo_zero (L:List Nat) (P:Nat->Bool) (N:Nat):List.replicate N 0=nmTo L P N 1:=by
 refine List.ext_getElem (by simp[nmTo]) fun j h1 h2=>?_
 simp only[nmTo,List.getElem_map,List.getElem_range,List.getElem_replicate]
 rw[if_neg (by omega)]
theorem nmTo_next (L:List Nat) (P:Nat->Bool) (N j z:Nat) (h1:1<=j) (hz:numM L P j=z):(nmTo L P N j).set j z=nmTo L P N (j+1):=by
 refine List.ext_getElem (by simp[nmTo]) fun i h2 h3=>?_
 simp only[List.getElem_set,nmTo,List.getElem_map,List.getElem_range]
 by_cases e:j=i
 · subst e;rw[if_pos rfl,if_pos ⟨by omega,h1⟩,hz]
 · rw[if_neg e]
   by_cases h4:i<j/\1<=i
   · rw[if_pos h4,if_pos ⟨by omega,h4.2⟩]
   · rw[if_neg h4,if_neg (fun q=>h4 ⟨by omega,q.2⟩)]
theorem nmTo_same (L:List Nat) (P:Nat->Bool) (N j:Nat) (hz:numM L P j=0):nmTo L P N j=nmTo L P N (j+1):=by
 refine List.map_congr_left fun i _=>?_
 by_cases h4:i<j/\1<=i
 · rw[if_pos h4,if_pos ⟨by omega,h4.2⟩]
 · rw[if_neg h4]
   by_cases h5:i<j+1/\1<=i
   · have e:i=j:=by omega
     rw[if_pos h5,e,hz]
   · rw[if_neg h5]
theorem cntB_yes (P:Nat->Bool) (j:Nat) (h1:1<=j) (h:P j=true):cntB P (j+1)=cntB P j+1:=by simp only[cntB];rw[if_pos ⟨h1,h⟩]
theorem cntB_no (P:Nat->Bool) (j:Nat) (h:P j=false):cntB P (j+1)=cntB P j:=by simp only[cntB];rw[if_neg (fun z=>by rw[h]at z;cases z.2)];rfl
theorem cntB_one (P:Nat->Bool):cntB P 1=0:=by simp[cntB]
theorem reTo_next (C:List Cr) (G:List Nat) (h:Nat->Nat) (i:Nat):reTo C G h (i+1)=if i∈G then reTo C G h i else reTo C G h i++[reX h (C.getD i Cr.none)]:=by
 simp only[reTo]
 split<;>simp
end Go.Proofs.Ytagaajlbkfkaiaa
/- Plain mathematics: what the reference's smoothing leaves is what the code's leaves. -/
namespace Go.Proofs.Ytagaajlbkfkaiaa
end Go.Proofs.Ytagaajlbkfkaiaa
/- Parts that run the other way round; the walk of ref.within. -/
namespace Go.Proofs.Ytagaajlbkfkaiaa
open Go.RowKit
def wi (l:List Nat) (z:Int):Bool:=l.any fun y=>decide ((y:Int)=z)
end Go.Proofs.Ytagaajlbkfkaiaa
