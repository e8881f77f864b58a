/- Several texts of the proof, one behind the other. -/
import Derived.Test.YtagaajlbkfkaiaaH6P
import Derived.Test.YtagaajlbkfkaiaaEndsP
import Derived.Test.YtagaajlbkfkaiaaBaseP
import Derived.Deep.RegionHeld3
/- Helps for the walk of drawing.Of: stores of four and of two cells; the state of its loops. -/
namespace Go.Proofs.Ytagaajlbkfkaiaa
open Go.RowKit
theorem set_block {w:World} {g i:Nat} {cs:Array Value} {t:TypeId} {fz:Nat×Nat} {u:Value} (h:w.heap[g]?=some (.cells cs t fz)):(w.setCell ⟨g,i,none⟩ u).heap[g]?=some (.cells (cs.setIfInBounds i u) t fz):=by
 simp only[World.setCell,Array.getElem?_modify,if_true,h]
 rfl
theorem set_grown (w:World) (g i:Nat) (u:Value):w.grownBy (w.setCell ⟨g,i,none⟩ u) (some g):=
 ⟨rfl,rfl,rfl,by simp,fun k _ hk=>heap_setCell_other w ⟨g,i,none⟩ k u (fun e=>hk (by simp[e]))⟩
theorem grown_trans {a b c:World} {row:Option Nat} (h:a.grownBy b row) (k:b.grownBy c row):a.grownBy c row:=
 ⟨k.os.trans h.os,k.tape.trans h.tape,k.output.trans h.output,Nat.le_trans h.size k.size,fun j hj hn=>(k.block j (Nat.lt_of_lt_of_le hj h.size) hn).trans (h.block j hj hn)⟩
def st4 (w:World) (g:Nat) (a b c d:Value):World:=(((w.setCell ⟨g,0,none⟩ a).setCell ⟨g,1,none⟩ b).setCell ⟨g,2,none⟩ c).setCell ⟨g,3,none⟩ d
theorem st4_grown (w:World) (g:Nat) (a b c d:Value):w.grownBy (st4 w g a b c d) (some g):=
 grown_trans (grown_trans (grown_trans (set_grown _ _ _ _) (set_grown _ _ _ _)) (set_grown _ _ _ _)) (set_grown _ _ _ _)
theorem st4_block {w:World} {g:Nat} {t:TypeId} {a0 b0 c0 d0 a b c d:Value} (h:w.heap[g]?=some (.cells #[a0,b0,c0,d0] t (0,0))):(st4 w g a b c d).heap[g]?=some (.cells #[a,b,c,d] t (0,0)):=by
 unfold st4
 rw[set_block (set_block (set_block (set_block h)))]
 rfl
theorem st4_cell {w:World} {g h o:Nat} {v a b c d:Value} (hne:h≠g) (hc:w.cell? ⟨h,o,none⟩=some v):((((w.setCell ⟨g,0,none⟩ a).setCell ⟨g,1,none⟩ b).setCell ⟨g,2,none⟩ c).setCell ⟨g,3,none⟩ d).cell? ⟨h,o,none⟩=some v:=
 (st4_grown w g a b c d).cell (a:=⟨h,o,none⟩) hc (fun e=>hne (Option.some.inj e))
theorem block_cell {w:World} {g i:Nat} {cs:Array Value} {t:TypeId} {fz:Nat×Nat} {v:Value} (h:w.heap[g]?=some (.cells cs t fz)) (hv:cs[i]?=some v):w.cell? ⟨g,i,none⟩=some v:=by
 unfold World.cell?
 rw[h]
 simpa using hv
theorem block_frozen {w:World} {g i:Nat} {cs:Array Value} {t:TypeId} (h:w.heap[g]?=some (.cells cs t (0,0))):w.frozen? ⟨g,i,none⟩=false:=by simp[World.frozen?,h]
theorem own_block {w:World} {B e s n:Nat} {v:Value} {xs:List Value} (h:w.ownsRow B e s v n xs) (hn:0<n):∃ g c,v=.slice (some ⟨g,0,none⟩) n c/\B<=g/\g<w.heap.size:=by
 rcases h.2 with⟨_,h0⟩|⟨g,cap,cur,rfl,hb,hg,_⟩
 · omega
 · exact⟨g,cap,rfl,(h.lt g rfl).1,(h.lt g rfl).2⟩
structure OfAt (sz gF cF gT cT:Nat) (A:Value) (loops:Int) (C:List Cr) (i k:Nat) (wr:World):Prop where
 dia:wr.heap[sz]?=some (.cells #[A,.int .i64 loops] 24 (0,0))
 dra:wr.heap[sz+1]?=some (.cells #[A,.int .i64 loops,.slice (some ⟨gF,0,none⟩) (2*C.length+1) cF,.slice (some ⟨gT,0,none⟩) (2*C.length+1) cT] 61 (0,0))
 from_:wr.ownsRow (sz+2) 120 2 (.slice (some ⟨gF,0,none⟩) (2*C.length+1) cF) (2*C.length+1) (flat (ends C false i k))
 to:wr.ownsRow (sz+2) 120 2 (.slice (some ⟨gT,0,none⟩) (2*C.length+1) cT) (2*C.length+1) (flat (ends C true i k))
 ne:gF≠gT
theorem OfAt.on {sz gF cF gT cT:Nat} {A:Value} {loops:Int} {C:List Cr} {i k:Nat} {w w':World} (h:OfAt sz gF cF gT cT A loops C i k w) (hb:Below w.heap.size w w') (hs:sz+1<w.heap.size):OfAt sz gF cF gT cT A loops C i k w':=
 ⟨(hb.block _ (by omega)).trans h.dia,(hb.block _ hs).trans h.dra,own_any h.from_ (grown_below hb none),own_any h.to (grown_below hb none),h.ne⟩
theorem OfAt.row {sz gF cF gT cT:Nat} {A:Value} {loops:Int} {C:List Cr} {i:Nat} {w:World} (h:OfAt sz gF cF gT cT A loops C i 4 w):OfAt sz gF cF gT cT A loops C (i+1) 0 w:=⟨h.dia,h.dra,h.from_,h.to,h.ne⟩
theorem flat_set2 (l:List (Int×Int)) (a:Nat) (i k:Int) (ha:a<l.length):((flat l).set (a*2) (.int .i64 i)).set (a*2+1) (.int .i64 k)=flat (l.set a (i,k)):=by
 rw[flat_setE _ _ _ ha,flat_setC _ _ _ (by rw[setE_length];exact ha)]
 congr 1
 unfold setC setE
 rw[List.set_set]
 congr 1
 simp[List.getD,ha]
def st2 (w:World) (g o:Nat) (a b:Value):World:=(w.setCell ⟨g,o,none⟩ a).setCell ⟨g,o+1,none⟩ b
theorem st2_grown (w:World) (g o:Nat) (a b:Value):w.grownBy (st2 w g o a b) (some g):=grown_trans (set_grown _ _ _ _) (set_grown _ _ _ _)
theorem own_st2 {w:World} {B e n g cap a:Nat} {l:List (Int×Int)} {i k:Int} (h:w.ownsRow B e 2 (.slice (some ⟨g,0,none⟩) n cap) n (flat l)) (ha:a<l.length):(st2 w g (a*2) (.int .i64 i) (.int .i64 k)).ownsRow B e 2 (.slice (some ⟨g,0,none⟩) n cap) n (flat (l.set a (i,k))):=by
 have h1:=(h.stored (a*2) (.int .i64 i)).1
 have h2:=(h1.stored (a*2+1) (.int .i64 k)).1
 rw[flat_set2 l a i k ha]at h2
 exact h2
theorem OfAt.storeT {sz gF cF gT cT a:Nat} {A:Value} {loops:Int} {C:List Cr} {i k:Nat} {w:World} (h:OfAt sz gF cF gT cT A loops C i k w) (h1:1<=a) (h2:a<=2*C.length) (hc:(C.getD i Cr.none).comes k=true) (ha:(C.getD i Cr.none).arc k=(a:Int)):OfAt sz gF cF gT cT A loops C i (k+1) (st2 w gT (a*2) (.int .i64 (i:Nat)) (.int .i64 (k:Nat))):=by
 have hg:=st2_grown w gT (a*2) (.int .i64 (i:Nat)) (.int .i64 (k:Nat))
 have hT:=(h.to.lt gT rfl)
 have hF:=(h.from_.lt gF rfl)
 refine⟨(hg.block _ (by omega) (fun e=>by have:=Option.some.inj e;omega)).trans h.dia,(hg.block _ (by omega) (fun e=>by have:=Option.some.inj e;omega)).trans h.dra,?_,?_,h.ne⟩
 · rw[ends_keep C false i k (by rw[hc];decide)]
   exact h.from_.kept hg (Or.inr (fun e=>h.ne (Option.some.inj e)))
 · rw[<-ends_set C true i k a h1 hc ha]
   exact own_st2 h.to (by rw[ends_length];omega)
theorem OfAt.storeF {sz gF cF gT cT a:Nat} {A:Value} {loops:Int} {C:List Cr} {i k:Nat} {w:World} (h:OfAt sz gF cF gT cT A loops C i k w) (h1:1<=a) (h2:a<=2*C.length) (hc:(C.getD i Cr.none).comes k=false) (ha:(C.getD i Cr.none).arc k=(a:Int)):OfAt sz gF cF gT cT A loops C i (k+1) (st2 w gF (a*2) (.int .i64 (i:Nat)) (.int .i64 (k:Nat))):=by
 have hg:=st2_grown w gF (a*2) (.int .i64 (i:Nat)) (.int .i64 (k:Nat))
 have hT:=(h.to.lt gT rfl)
 have hF:=(h.from_.lt gF rfl)
 refine⟨(hg.block _ (by omega) (fun e=>by have:=Option.some.inj e;omega)).trans h.dia,(hg.block _ (by omega) (fun e=>by have:=Option.some.inj e;omega)).trans h.dra,?_,?_,h.ne⟩
 · rw[<-ends_set C false i k a h1 hc ha]
   exact own_st2 h.from_ (by rw[ends_length];omega)
 · rw[ends_keep C true i k (by rw[hc];decide)]
   exact h.to.kept hg (Or.inr (fun e=>h.ne (Option.some.inj e).symm))
theorem index_arr (x:Cr) (k:Nat) (hk:k<4) (w:World):(Instr.index 116 (.agg #[.int .i64 x.a,.int .i64 x.b,.int .i64 x.c,.int .i64 x.d]) (.int .i64 (k:Nat))).run Try.prog w=.ok (.int .i64 (x.arc k)) w:=by
 have hk4:k=0∨k=1∨k=2∨k=3:=by omega
 rcases hk4 with rfl|rfl|rfl|rfl<;>simp[Instr.index,asIntOf,run_underlying Try.underlying116,go_sem,Cr.arc]
structure Drawn (w w':World) (B:Nat) (A:Value) (loops:Int) (C:List Cr) (D:Value):Prop where
 no:mayD C loops=false->D=noDrawing
 yes:mayD C loops=true->∃ gF cF gT cT,D=.agg #[A,.int .i64 loops,.slice (some ⟨gF,0,none⟩) (2*C.length+1) cF,.slice (some ⟨gT,0,none⟩) (2*C.length+1) cT]/\
  w'.ownsRow B 120 2 (.slice (some ⟨gF,0,none⟩) (2*C.length+1) cF) (2*C.length+1) (flat (ends C false C.length 0))/\
  w'.ownsRow B 120 2 (.slice (some ⟨gT,0,none⟩) (2*C.length+1) cT) (2*C.length+1) (flat (ends C true C.length 0))
end Go.Proofs.Ytagaajlbkfkaiaa
/- The walk of ref.EndOf. -/
namespace Go.Proofs.Ytagaajlbkfkaiaa
open Go.RowKit
theorem may_size {C:List Cr} {loops:Int} (hm:mayD C loops=true):sizeB C loops=true:=by
 cases hs:sizeB C loops with
 |true=>rfl
 |false=>rw[mayD_size hs]at hm;cases hm
end Go.Proofs.Ytagaajlbkfkaiaa
/- A drawing in a world; the walks of Drawing.Above, Drawing.Leaving and Drawing.Ahead. -/
namespace Go.Proofs.Ytagaajlbkfkaiaa
open Go.RowKit
set_option maxHeartbeats 4000000
set_option maxRecDepth 100000
theorem alloc_at {w:World} {o:Obj} {k:Nat} (h:k=w.heap.size):(w.alloc o).heap[k]?=some o:=by
 rw[h]
 exact Array.getElem?_push_size
theorem alloc_old {w:World} {o p:Obj} {k:Nat} (h:w.heap[k]?=some p):(w.alloc o).heap[k]?=some p:=by
 have hk:k<w.heap.size:=(Array.getElem?_eq_some_iff.1 h).1
 exact((World.grownBy_alloc w o none).block k hk (by simp)).trans h
structure Dr (w:World) (a:Option Addr) (cap:Nat) (C:List Cr) (gF gT:Nat):Prop where
 crs:Crs w w.heap.size (.slice a C.length cap) C
 ltF:gF<w.heap.size
 ltT:gT<w.heap.size
 from_:TermsAt w gF 0 (ends C false C.length 0)
 to:TermsAt w gT 0 (ends C true C.length 0)
theorem Crs.on {w w':World} {B:Nat} {v:Value} {C:List Cr} (h:Crs w B v C) (hb:Below B w w'):Crs w' B v C:=by
 obtain⟨a,cap,rfl,hn,g⟩:=h
 refine⟨a,cap,rfl,hn,fun h0=>?_⟩
 obtain⟨b,off,rfl,hlt,hC⟩:=g h0
 exact⟨b,off,rfl,hlt,hC.on hb hlt⟩
theorem Crs.mono {w:World} {B B':Nat} {v:Value} {C:List Cr} (h:Crs w B v C) (hB:B<=B'):Crs w B' v C:=by
 obtain⟨a,cap,rfl,hn,g⟩:=h
 refine⟨a,cap,rfl,hn,fun h0=>?_⟩
 obtain⟨b,off,rfl,hlt,hC⟩:=g h0
 exact⟨b,off,rfl,Nat.lt_of_lt_of_le hlt hB,hC⟩
theorem Crs.up {w w':World} {v:Value} {C:List Cr} (h:Crs w w.heap.size v C) (hb:Below w.heap.size w w'):Crs w' w'.heap.size v C:=(h.on hb).mono hb.size
theorem Dr.on {w w':World} {a:Option Addr} {cap:Nat} {C:List Cr} {gF gT:Nat} (h:Dr w a cap C gF gT) (hb:Below w.heap.size w w'):Dr w' a cap C gF gT:=
 ⟨h.crs.up hb,Nat.lt_of_lt_of_le h.ltF hb.size,Nat.lt_of_lt_of_le h.ltT hb.size,h.from_.on hb h.ltF,h.to.on hb h.ltT⟩
theorem Dr.cross {w:World} {a:Option Addr} {cap:Nat} {C:List Cr} {gF gT:Nat} (h:Dr w a cap C gF gT) (hp:0<C.length):∃ b off,a=some ⟨b,off,none⟩/\b<w.heap.size/\CrossAt w b off C:=by
 obtain⟨a',cap',e,_,g⟩:=h.crs
 injection e with e1 e2 e3
 obtain⟨b,off,h1,h2,h3⟩:=g hp
 exact⟨b,off,by rw[e1,h1],h2,h3⟩
theorem Dr.toAt {w:World} {a:Option Addr} {cap:Nat} {C:List Cr} {gF gT:Nat} {loops:Int} (h:Dr w a cap C gF gT) (hm:mayD C loops=true) (x:Nat) (h1:1<=x) (h2:x<=2*C.length):
    w.cell? ⟨gT,x*2,none⟩=some (.int .i64 (toC C x:Nat))/\w.cell? ⟨gT,x*2+1,none⟩=some (.int .i64 (toS C x:Nat)):=by
 have hT:=h.to x (by rw[ends_length];omega)
 rw[ends_at C true C.length 0 x h1 h2,Nat.zero_add]at hT
 have e:endAh C x true C.length 0=endTo C x true C.length:=rfl
 rw[e,(to_may hm x h1 h2).1]at hT
 exact hT
def drV (a:Option Addr) (cap:Nat) (C:List Cr) (loops:Int) (gF cF gT cT:Nat):Value:=.agg #[.slice a C.length cap,.int .i64 loops,.slice (some ⟨gF,0,none⟩) (2*C.length+1) cF,.slice (some ⟨gT,0,none⟩) (2*C.length+1) cT]
theorem across_any (i:Int) (k:Nat) (w:World) (hk:k<4):
    Calls Try.prog 116 #[.agg #[.int .i64 i,.int .i64 k]] w fun e w'=>e=.returned (.agg #[.int .i64 i,.int .i64 ((k+2)%4:Nat)])/\Below w.heap.size w w':=by
 obtain⟨k2,hk2⟩:∃ k2:Nat,k2=(k+2)%4:=⟨_,rfl⟩
 have e1:IntKind.i64.wrap ((k:Int)+2)=(k:Int)+2:=IntWalk.i64_in _ (by omega)
 have e2:((k:Int)+2).tmod 4=(k2:Int):=by rw[Int.tmod_eq_emod_of_nonneg (by omega)];omega
 rw[<-hk2]
 clear hk2
 have hB:Below w.heap.size w ((w.alloc (.cells #[.int .i64 i,.int .i64 k] 120)).alloc (.cells #[.int .i64 i,.int .i64 k2] 120)):=below2 _ _ _
 have hG:((w.alloc (.cells #[.int .i64 i,.int .i64 k] 120)).alloc (.cells #[.int .i64 i,.int .i64 k2] 120)).heap[w.heap.size+1]?=some (.cells #[.int .i64 i,.int .i64 k2] 120 (0,0)):=alloc_at (by simp)
 have x0:=block_cell (i:=0) (v:=.int .i64 i) hG rfl
 have x1:=block_cell (i:=1) (v:=.int .i64 k2) hG rfl
 have HB:=hidB hB
 clear hB hG
 go_enter Try.func116,Try.ntmps116
 go_wp2
 exact bodyPost_ret (v:=.agg #[.int .i64 i,.int .i64 k2]) (by simp[results,Try.results116,go_sem,x0,x1]) rfl ⟨rfl,HB.out⟩
theorem spotAbove_any (i:Int) (k:Nat) (w:World) (hk:k<4):
    Calls Try.prog 126 #[.agg #[.int .i64 i,.int .i64 k]] w fun e w'=>e=.returned (.bool (decide (k%2=1)))/\Below w.heap.size w w':=by
 go_enter Try.func126,Try.ntmps126
 go_wp2
 · go_ret
   have hk1:k=1:=by omega
   subst hk1
   exact⟨rfl,(Below.refl _ _).alloc (Nat.le_refl _) _⟩
 · go_ret
   refine⟨?_,(Below.refl _ _).alloc (Nat.le_refl _) _⟩
   have hk5:k=0∨k=1∨k=2∨k=3:=by omega
   rcases hk5 with rfl|rfl|rfl|rfl<;>rfl
theorem leaving_any (b off cap:Nat) (C:List Cr) (loops:Int) (vF vT:Value) (i k:Nat) (w:World) (hi:i<C.length) (hk:k<4) (hbw:b<w.heap.size) (hC:CrossAt w b off C):
    Calls Try.prog 117 #[.agg #[.slice (some ⟨b,off,none⟩) C.length cap,.int .i64 loops,vF,vT],.agg #[.int .i64 i,.int .i64 k]] w fun e w'=>e=.returned (.agg #[.int .i64 ((C.getD i Cr.none).arc k),.bool ((C.getD i Cr.none).comes k)])/\Below w.heap.size w w':=by
 obtain⟨c0,c1,c2,c3,c4⟩:=hC i hi
 clear hC
 generalize C.getD i Cr.none=x at c0 c1 c2 c3 c4
 have hB3:Below w.heap.size w (((w.alloc (.cells #[.slice (some ⟨b,off,none⟩) C.length cap,.int .i64 loops,vF,vT] 61)).alloc (.cells #[.int .i64 i,.int .i64 k] 120)).alloc (.cells #[.int .i64 0,.bool false] 26)):=below3 _ _ _ _
 have e0:=bcell hB3 hbw c0
 have e1:=bcell hB3 hbw c1
 have e2:=bcell hB3 hbw c2
 have e3:=bcell hB3 hbw c3
 have e4:=bcell hB3 hbw c4
 clear hB3 c0 c1 c2 c3 c4
 go_enter Try.func117,Try.ntmps117
 go_wp2
 clear e0 e1 e2 e3 e4
 obtain⟨W0,hW0⟩:∃ W0,W0=(((w.alloc (.cells #[.slice (some ⟨b,off,none⟩) C.length cap,.int .i64 loops,vF,vT] 61)).alloc (.cells #[.int .i64 i,.int .i64 k] 120)).alloc (.cells #[.int .i64 0,.bool false] 26)).alloc (.cells #[.int .i64 x.a,.int .i64 x.b,.int .i64 x.c,.int .i64 x.d,.bool x.plus] 71):=⟨_,rfl⟩
 rw[<-hW0]
 have hs0:W0.heap.size=w.heap.size+4:=by rw[hW0];simp
 have HB0:Hid (Below w.heap.size w W0):=(by rw[hW0];exact(below3 _ _ _ _).alloc (by simp;omega) _:Below w.heap.size w W0)
 have HT1:Hid (W0.heap[w.heap.size+1]?=some (.cells #[.int .i64 i,.int .i64 k] 120 (0,0))):=(by rw[hW0];exact alloc_old (alloc_old (alloc_at (by simp))):W0.heap[w.heap.size+1]?=some (.cells #[.int .i64 i,.int .i64 k] 120 (0,0)))
 have HT2:Hid (W0.heap[w.heap.size+1+1]?=some (.cells #[.int .i64 0,.bool false] 26 (0,0))):=(by rw[hW0];exact alloc_old (alloc_at (by simp)):W0.heap[w.heap.size+1+1]?=some (.cells #[.int .i64 0,.bool false] 26 (0,0)))
 have HT3:Hid (W0.heap[w.heap.size+1+1+1]?=some (.cells #[.int .i64 x.a,.int .i64 x.b,.int .i64 x.c,.int .i64 x.d,.bool x.plus] 71 (0,0))):=(by rw[hW0];exact alloc_at (by simp):W0.heap[w.heap.size+1+1+1]?=some (.cells #[.int .i64 x.a,.int .i64 x.b,.int .i64 x.c,.int .i64 x.d,.bool x.plus] 71 (0,0)))
 clear hW0
 have HF:Hid (∀ w',Below W0.heap.size W0 w'->w'.cell? ⟨w.heap.size+1+1+1,0,none⟩=some (.int .i64 x.a)/\w'.cell? ⟨w.heap.size+1+1+1,1,none⟩=some (.int .i64 x.b)/\w'.cell? ⟨w.heap.size+1+1+1,2,none⟩=some (.int .i64 x.c)/\w'.cell? ⟨w.heap.size+1+1+1,3,none⟩=some (.int .i64 x.d)/\w'.cell? ⟨w.heap.size+1+1+1,4,none⟩=some (.bool x.plus)/\w'.cell? ⟨w.heap.size+1,1,none⟩=some (.int .i64 k)):=fun w' hb=>by
  have g3:=(hb.block _ (by omega)).trans HT3.out
  have g1:=(hb.block _ (by omega)).trans HT1.out
  exact⟨block_cell g3 rfl,block_cell g3 rfl,block_cell g3 rfl,block_cell g3 rfl,block_cell g3 rfl,block_cell g1 rfl⟩
 have HFS:Hid (∀ wX u v,Below W0.heap.size W0 wX->(fun w'=>w'.cell? ⟨w.heap.size+1+1+1,0,none⟩=some (.int .i64 x.a)/\w'.cell? ⟨w.heap.size+1+1+1,1,none⟩=some (.int .i64 x.b)/\w'.cell? ⟨w.heap.size+1+1+1,2,none⟩=some (.int .i64 x.c)/\w'.cell? ⟨w.heap.size+1+1+1,3,none⟩=some (.int .i64 x.d)/\w'.cell? ⟨w.heap.size+1+1+1,4,none⟩=some (.bool x.plus)/\w'.cell? ⟨w.heap.size+1,1,none⟩=some (.int .i64 k)) (st2 wX (w.heap.size+1+1) 0 u v)):=fun wX u v hb=>by
  have hg:=st2_grown wX (w.heap.size+1+1) 0 u v
  have hsz:=hb.size
  have g3:=(hg.block (w.heap.size+1+1+1) (by omega) (fun e=>by have:=Option.some.inj e;omega)).trans ((hb.block _ (by omega)).trans HT3.out)
  have g1:=(hg.block (w.heap.size+1) (by omega) (fun e=>by have:=Option.some.inj e;omega)).trans ((hb.block _ (by omega)).trans HT1.out)
  exact⟨block_cell g3 rfl,block_cell g3 rfl,block_cell g3 rfl,block_cell g3 rfl,block_cell g3 rfl,block_cell g1 rfl⟩
 have HZ:Hid (∀ wX,Below W0.heap.size W0 wX->wX.cell? ⟨w.heap.size+1+1,0,none⟩=some (.int .i64 0)/\wX.cell? ⟨w.heap.size+1+1,1,none⟩=some (.bool false)/\wX.frozen? ⟨w.heap.size+1+1,0,none⟩=false/\wX.frozen? ⟨w.heap.size+1+1,1,none⟩=false):=fun wX hb=>by
  have g2:=(hb.block _ (by omega)).trans HT2.out
  exact⟨block_cell g2 rfl,block_cell g2 rfl,block_frozen g2,block_frozen g2⟩
 have HD0:Hid (Below W0.heap.size W0 W0.drew):=(Below.refl _ _).drew
 obtain⟨t0,t1,t2,t3,t4,t5⟩:=HF.out W0 (Below.refl _ _)
 have hix:=index_arr x k hk
 go_region_held3 (fun w'=>w'.cell? ⟨w.heap.size+1+1+1,0,none⟩=some (.int .i64 x.a)/\w'.cell? ⟨w.heap.size+1+1+1,1,none⟩=some (.int .i64 x.b)/\w'.cell? ⟨w.heap.size+1+1+1,2,none⟩=some (.int .i64 x.c)/\w'.cell? ⟨w.heap.size+1+1+1,3,none⟩=some (.int .i64 x.d)/\w'.cell? ⟨w.heap.size+1+1+1,4,none⟩=some (.bool x.plus)/\w'.cell? ⟨w.heap.size+1,1,none⟩=some (.int .i64 k)) (first|exact HF.out _ HY.out|exact HF.out _ HA.out|exact HF.out _ HD0.out|exact HF.out _ (Below.refl _ _)|exact HFS.out _ _ _ HY.out|exact HFS.out _ _ _ HA.out) (first
  |(go_at_call 75;refine(arcs_any x _).mono ?_;rintro e9 wA ⟨rfl,hbA⟩
     first
      |have HA:Hid (Below W0.heap.size W0 wA):=HY.out.trans (hbA.mono HY.out.size)
      |have HA:Hid (Below W0.heap.size W0 wA):=HD0.out.trans hbA
     obtain⟨a0,a1,a2,a3,a4,a5⟩:=HF.out wA HA.out
     obtain⟨b0,b1,b2,b3⟩:=HZ.out wA HA.out
     clear hbA)
  |(go_at_call 76;refine(comesIn_any x k _ hk).mono ?_;rintro e9 wC ⟨rfl,hbC⟩
     first
      |have HY:Hid (Below W0.heap.size W0 wC):=HA.out.trans (hbC.mono HA.out.size)
      |have HY:Hid (Below W0.heap.size W0 wC):=HD0.out.trans hbC
     obtain⟨p0,p1,p2,p3,p4,p5⟩:=HF.out wC HY.out
     obtain⟨q0,q1,q2,q3⟩:=HZ.out wC HY.out
     clear hbC))
 all_goals first
  |(have hX:=set_block (i:=1) (u:=.bool (x.comes k)) (set_block (i:=0) (u:=.int .i64 (x.arc k)) ((HY.out.block _ (by omega)).trans HT2.out))
     have x0:=block_cell (i:=0) (v:=.int .i64 (x.arc k)) hX rfl
     have x1:=block_cell (i:=1) (v:=.bool (x.comes k)) hX rfl
     go_wp2
     exact bodyPost_ret (v:=.agg #[.int .i64 (x.arc k),.bool (x.comes k)]) (by simp[results,Try.results117,go_sem,x0,x1]) rfl ⟨rfl,(HB0.out.trans (HY.out.mono (by omega))).grown (st2_grown wC (w.heap.size+1+1) 0 (.int .i64 (x.arc k)) (.bool (x.comes k))) (by have:=HY.out.size;omega) (fun q hq=>by have:=Option.some.inj hq;omega)⟩)
  |(have hX:=set_block (i:=1) (u:=.bool (x.comes k)) (set_block (i:=0) (u:=.int .i64 (x.arc k)) ((HA.out.block _ (by omega)).trans HT2.out))
     have x0:=block_cell (i:=0) (v:=.int .i64 (x.arc k)) hX rfl
     have x1:=block_cell (i:=1) (v:=.bool (x.comes k)) hX rfl
     go_wp2
     exact bodyPost_ret (v:=.agg #[.int .i64 (x.arc k),.bool (x.comes k)]) (by simp[results,Try.results117,go_sem,x0,x1]) rfl ⟨rfl,(HB0.out.trans (HA.out.mono (by omega))).grown (st2_grown wA (w.heap.size+1+1) 0 (.int .i64 (x.arc k)) (.bool (x.comes k))) (by have:=HA.out.size;omega) (fun q hq=>by have:=Option.some.inj hq;omega)⟩)
theorem field_dart (a:Int) (p:Bool) (w:World):(Instr.field 26 (.agg #[.int .i64 a,.bool p]) 0).run Try.prog w=.ok (.int .i64 a) w:=by
 simp[Instr.field,run_underlying Try.underlying26,go_sem,asAgg]
theorem ahead_any (a:Option Addr) (cap:Nat) (C:List Cr) (loops:Int) (gF cF gT cT:Nat) (x:Nat) (w:World) (hm:mayD C loops=true) (h1:1<=x) (h2:x<=2*C.length) (hD:Dr w a cap C gF gT):
    Calls Try.prog 97 #[drV a cap C loops gF cF gT cT,.int .i64 x] w fun e w'=>e=.returned (.int .i64 (nx C x:Nat))/\Below w.heap.size w w':=by
 obtain⟨b,off,rfl,hbw,hC⟩:=hD.cross (by omega)
 unfold drV
 have hT:=hD.toAt hm x h1 h2
 have c0:=hT.1
 have c1:=hT.2
 have hlt:=hD.ltT
 obtain⟨-,hi,hk,-,-⟩:=to_may hm x h1 h2
 have HNX:Hid ((C.getD (toC C x) Cr.none).arc ((toS C x+2)%4)=(nx C x:Int)):=(nx_may hm x h1 h2).1
 have HC:Hid (CrossAt w b off C):=hC
 clear hT hD hm hC
 generalize toS C x=k at c1 hk HNX
 generalize toC C x=i at c0 hi HNX
 generalize nx C x=z at HNX
 have hx:x<2*C.length+1:=by omega
 obtain⟨k2,hk2⟩:∃ k2:Nat,k2=(k+2)%4:=⟨_,rfl⟩
 have e1:IntKind.i64.wrap ((k:Int)+2)=(k:Int)+2:=IntWalk.i64_in _ (by omega)
 have e2:((k:Int)+2).tmod 4=(k2:Int):=by rw[Int.tmod_eq_emod_of_nonneg (by omega)];omega
 have hk24:k2<4:=by omega
 rw[<-hk2]at HNX
 have hfd:=field_dart (z:Int)
 obtain⟨X,hX⟩:∃ X,X=w.alloc (.cells #[.slice (some ⟨b,off,none⟩) C.length cap,.int .i64 loops,.slice (some ⟨gF,0,none⟩) (2*C.length+1) cF,.slice (some ⟨gT,0,none⟩) (2*C.length+1) cT] 61):=⟨_,rfl⟩
 have HX:Hid (X=w.alloc (.cells #[.slice (some ⟨b,off,none⟩) C.length cap,.int .i64 loops,.slice (some ⟨gF,0,none⟩) (2*C.length+1) cF,.slice (some ⟨gT,0,none⟩) (2*C.length+1) cT] 61)):=hX
 have hsX:X.heap.size=w.heap.size+1:=by rw[hX];simp
 have HB1:Hid (Below w.heap.size w X):=(by rw[hX];exact(Below.refl _ _).alloc (Nat.le_refl _) _:Below w.heap.size w X)
 have HG1:Hid (X.heap[w.heap.size]?=some (.cells #[.slice (some ⟨b,off,none⟩) C.length cap,.int .i64 loops,.slice (some ⟨gF,0,none⟩) (2*C.length+1) cF,.slice (some ⟨gT,0,none⟩) (2*C.length+1) cT] 61 (0,0))):=(by rw[hX];exact alloc_at rfl:X.heap[w.heap.size]?=some (.cells #[.slice (some ⟨b,off,none⟩) C.length cap,.int .i64 loops,.slice (some ⟨gF,0,none⟩) (2*C.length+1) cF,.slice (some ⟨gT,0,none⟩) (2*C.length+1) cT] 61 (0,0)))
 clear hX
 have HK:Hid (∀ w',Below X.heap.size X w'->w'.cell? ⟨w.heap.size,0,none⟩=some (.slice (some ⟨b,off,none⟩) C.length cap)/\w'.cell? ⟨w.heap.size,1,none⟩=some (.int .i64 loops)/\w'.cell? ⟨w.heap.size,2,none⟩=some (.slice (some ⟨gF,0,none⟩) (2*C.length+1) cF)/\w'.cell? ⟨w.heap.size,3,none⟩=some (.slice (some ⟨gT,0,none⟩) (2*C.length+1) cT)/\w'.cell? ⟨gT,x*2,none⟩=some (.int .i64 i)/\w'.cell? ⟨gT,x*2+1,none⟩=some (.int .i64 k)):=fun w' hb=>by
  have g:=(hb.block _ (by omega)).trans HG1.out
  have hb2:=HB1.out.trans (hb.mono (by omega))
  exact⟨block_cell g rfl,block_cell g rfl,block_cell g rfl,block_cell g rfl,bcell hb2 hlt c0,bcell hb2 hlt c1⟩
 have HD0:Hid (Below X.heap.size X X.drew):=(Below.refl _ _).drew
 have HAC:Hid (∀ W:World,Calls Try.prog 116 #[.agg #[.int .i64 i,.int .i64 k]] W fun e w'=>e=.returned (.agg #[.int .i64 i,.int .i64 (k2:Nat)])/\Below W.heap.size W w'):=fun W=>(by rw[hk2];exact across_any i k W hk)
 clear hk2 c0 c1
 obtain⟨t0,t1,t2,t3,t4,t5⟩:=HK.out X (Below.refl _ _)
 have hx0:(0:Int)<=(x:Int):=by omega
 have hx9:(x:Int)<2*(C.length:Int)+1:=by omega
 go_enter Try.func97,Try.ntmps97
 go_wp2
 rw[<-HX.out]
 go_region_held3 (fun w'=>w'.cell? ⟨w.heap.size,0,none⟩=some (.slice (some ⟨b,off,none⟩) C.length cap)/\w'.cell? ⟨w.heap.size,1,none⟩=some (.int .i64 loops)/\w'.cell? ⟨w.heap.size,2,none⟩=some (.slice (some ⟨gF,0,none⟩) (2*C.length+1) cF)/\w'.cell? ⟨w.heap.size,3,none⟩=some (.slice (some ⟨gT,0,none⟩) (2*C.length+1) cT)/\w'.cell? ⟨gT,x*2,none⟩=some (.int .i64 i)/\w'.cell? ⟨gT,x*2+1,none⟩=some (.int .i64 k)) (first|exact HK.out _ HD0.out|exact HK.out _ HL.out|exact HK.out _ HA.out) (first
  |(go_at_call 117;refine(leaving_any b off cap C loops _ _ i k2 _ hi hk24 hb9 HC3.out).mono ?_;rw[HNX.out];rintro e9 w4 ⟨rfl,hb4⟩
     have HL:Hid (Below X.heap.size X w4):=HA.out.trans (hb4.mono HA.out.size))
  |(go_at_call 116;refine(HAC.out _).mono ?_;rintro e9 w3 ⟨rfl,hb3⟩
     have HA:Hid (Below X.heap.size X w3):=HD0.out.trans (hb3.mono HD0.out.size)
     have HC3:Hid (CrossAt w3 b off C):=HC.out.on (HB1.out.trans (HA.out.mono (by omega))) hbw
     have hb9:b<w3.heap.size:=Nat.lt_of_lt_of_le hbw (HB1.out.trans (HA.out.mono (by omega))).size
     clear hb3))
 all_goals
  go_wp2
  go_ret
  exact⟨rfl,HB1.out.trans (HL.out.mono (by omega))⟩
end Go.Proofs.Ytagaajlbkfkaiaa
/- One operation of a region that draws its order, taken by hand. -/
namespace Go.Proofs.Ytagaajlbkfkaiaa
open Go.RowKit
theorem take_q {P:Program} {md:Region.Mode} {ops:Array Oper} {Q:Exit->Act->World->Prop} {S:World->Prop} {i:Nat} (d:Nat) {oi:Oper} {v:Value} {fuel:Nat} {listed:Array Bool} {ts:Array Value} {ds:List Deferred} {w:World} (hi:ops[i]?=some oi) (hdst:oi.dst=some d)
    (hs:Region.noSelect ops=true) (hf:Region.free md ops listed i=true) (hr:(Region.ready md ops listed).contains i=true) (hq:∀ x a w',Q (.panic x) (Act.put a oi.dst v) w'->Q (.panic x) a w') (hy:YieldsIf P ops S oi v { tmps:=ts,defers:=ds }) (hS:S w)
    (h:wpAnyH P md ops Q S fuel (listed.setIfInBounds i true) { tmps:=ts.setIfInBounds d v,defers:=ds } w):wpAnyH P md ops Q S (fuel+1) listed { tmps:=ts,defers:=ds } w:=by
 refine wpAnyH_take hi hs hf hr hq hy hS ?_
 rw[hdst]
 exact h
end Go.Proofs.Ytagaajlbkfkaiaa
