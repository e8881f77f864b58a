/- Several texts of the proof, one behind the other. -/
import Derived.Test.YtefooihnoajnlaaH5P
import Derived.Test.YtefooihnoajnlaaLevP
/- The walk of drawing.Of. -/
namespace Go.Proofs.Ytefooihnoajnlaa
open Go.RowKit
set_option maxHeartbeats 4000000
set_option maxRecDepth 100000
def noDrawing:Value:=.agg #[.slice none 0 0,.int .i64 0,.slice none 0 0,.slice none 0 0]
theorem of_size (v : Value) (C : List Cr) (loops : Int) (w : World) (h : Crs w w.heap.size v C) (hs : sizeB C loops = false) :
    Calls Try.prog 38 #[.agg #[v,.int .i64 loops]] w fun e w'=>e=.returned (.tuple #[noDrawing,.bool false])/\Below w.heap.size w w':=by
 obtain⟨a,cap,rfl,hn,_⟩:=h
 have hn':C.length<=9223372036854775807:=hn
 by_cases h1:16<C.length
 · have d1:decide (16<(C.length:Int))=true:=by simp;omega
   have d2:decide (16<C.length)=true:=by simp;omega
   go_enter Try.func38,Try.ntmps38
   go_wp2
   exact bodyPost_ret (v:=.tuple #[noDrawing,.bool false]) (by simp[results,Try.results38,go_sem,noDrawing]) rfl ⟨rfl,below2 _ _ _⟩
 · by_cases h2:loops<0
   · have d2:decide (loops<0)=true:=by simpa using h2
     go_enter Try.func38,Try.ntmps38
     go_wp2
     exact bodyPost_ret (v:=.tuple #[noDrawing,.bool false]) (by simp[results,Try.results38,go_sem,noDrawing]) rfl ⟨rfl,below2 _ _ _⟩
   · by_cases h3:16<loops
     · have d3:decide (16<loops)=true:=by simpa using h3
       go_enter Try.func38,Try.ntmps38
       go_wp2
       exact bodyPost_ret (v:=.tuple #[noDrawing,.bool false]) (by simp[results,Try.results38,go_sem,noDrawing]) rfl ⟨rfl,below2 _ _ _⟩
     · have h4 : C.length = 0 ∧ loops = 0 := by
         simp only[sizeB,Bool.and_eq_false_iff,decide_eq_false_iff_not,Bool.not_eq_false',Bool.and_eq_true,decide_eq_true_eq]at hs
         omega
       obtain⟨h4,rfl⟩:=h4
       rw[h4]
       go_enter Try.func38,Try.ntmps38
       go_wp2
       exact bodyPost_ret (v:=.tuple #[noDrawing,.bool false]) (by simp[results,Try.results38,go_sem,noDrawing]) rfl ⟨rfl,below2 _ _ _⟩
end Go.Proofs.Ytefooihnoajnlaa
/- Helps for the walk of drawing.Of: stores of four and of two cells; the state of its loops. -/
namespace Go.Proofs.Ytefooihnoajnlaa
open Go.RowKit
theorem set_block {w:World} {g i:Nat} {cs:Array Value} {t:TypeId} {fz:Nat×Nat} {u:Value} (h:w.heap[g]?=some (.cells cs t fz)):(w.setCell ⟨g,i,none⟩ u).heap[g]?=some (.cells (cs.setIfInBounds i u) t fz):=by
 simp only[World.setCell,Array.getElem?_modify,if_true,h]
 rfl
theorem set_grown (w:World) (g i:Nat) (u:Value):w.grownBy (w.setCell ⟨g,i,none⟩ u) (some g):=
 ⟨rfl,rfl,rfl,by simp,fun k _ hk=>heap_setCell_other w ⟨g,i,none⟩ k u (fun e=>hk (by simp[e]))⟩
theorem grown_trans {a b c:World} {row:Option Nat} (h:a.grownBy b row) (k:b.grownBy c row):a.grownBy c row:=
 ⟨k.os.trans h.os,k.tape.trans h.tape,k.output.trans h.output,Nat.le_trans h.size k.size,fun j hj hn=>(k.block j (Nat.lt_of_lt_of_le hj h.size) hn).trans (h.block j hj hn)⟩
def st4 (w:World) (g:Nat) (a b c d:Value):World:=(((w.setCell ⟨g,0,none⟩ a).setCell ⟨g,1,none⟩ b).setCell ⟨g,2,none⟩ c).setCell ⟨g,3,none⟩ d
theorem st4_grown (w:World) (g:Nat) (a b c d:Value):w.grownBy (st4 w g a b c d) (some g):=
 grown_trans (grown_trans (grown_trans (set_grown _ _ _ _) (set_grown _ _ _ _)) (set_grown _ _ _ _)) (set_grown _ _ _ _)
theorem st4_block {w:World} {g:Nat} {t:TypeId} {a0 b0 c0 d0 a b c d:Value} (h:w.heap[g]?=some (.cells #[a0,b0,c0,d0] t (0,0))):(st4 w g a b c d).heap[g]?=some (.cells #[a,b,c,d] t (0,0)):=by
 unfold st4
 rw[set_block (set_block (set_block (set_block h)))]
 rfl
theorem st4_cell {w:World} {g h o:Nat} {v a b c d:Value} (hne:h≠g) (hc:w.cell? ⟨h,o,none⟩=some v):((((w.setCell ⟨g,0,none⟩ a).setCell ⟨g,1,none⟩ b).setCell ⟨g,2,none⟩ c).setCell ⟨g,3,none⟩ d).cell? ⟨h,o,none⟩=some v:=
 (st4_grown w g a b c d).cell (a:=⟨h,o,none⟩) hc (fun e=>hne (Option.some.inj e))
theorem block_cell {w:World} {g i:Nat} {cs:Array Value} {t:TypeId} {fz:Nat×Nat} {v:Value} (h:w.heap[g]?=some (.cells cs t fz)) (hv:cs[i]?=some v):w.cell? ⟨g,i,none⟩=some v:=by
 unfold World.cell?
 rw[h]
 simpa using hv
theorem block_frozen {w:World} {g i:Nat} {cs:Array Value} {t:TypeId} (h:w.heap[g]?=some (.cells cs t (0,0))):w.frozen? ⟨g,i,none⟩=false:=by simp[World.frozen?,h]
theorem own_block {w:World} {B e s n:Nat} {v:Value} {xs:List Value} (h:w.ownsRow B e s v n xs) (hn:0<n):∃ g c,v=.slice (some ⟨g,0,none⟩) n c/\B<=g/\g<w.heap.size:=by
 rcases h.2 with⟨_,h0⟩|⟨g,cap,cur,rfl,hb,hg,_⟩
 · omega
 · exact⟨g,cap,rfl,(h.lt g rfl).1,(h.lt g rfl).2⟩
structure OfAt (sz gF cF gT cT:Nat) (A:Value) (loops:Int) (C:List Cr) (i k:Nat) (wr:World):Prop where
 dia:wr.heap[sz]?=some (.cells #[A,.int .i64 loops] 24 (0,0))
 dra:wr.heap[sz+1]?=some (.cells #[A,.int .i64 loops,.slice (some ⟨gF,0,none⟩) (2*C.length+1) cF,.slice (some ⟨gT,0,none⟩) (2*C.length+1) cT] 41 (0,0))
 from_:wr.ownsRow (sz+2) 93 2 (.slice (some ⟨gF,0,none⟩) (2*C.length+1) cF) (2*C.length+1) (flat (ends C false i k))
 to:wr.ownsRow (sz+2) 93 2 (.slice (some ⟨gT,0,none⟩) (2*C.length+1) cT) (2*C.length+1) (flat (ends C true i k))
 ne:gF≠gT
theorem OfAt.on {sz gF cF gT cT:Nat} {A:Value} {loops:Int} {C:List Cr} {i k:Nat} {w w':World} (h:OfAt sz gF cF gT cT A loops C i k w) (hb:Below w.heap.size w w') (hs:sz+1<w.heap.size):OfAt sz gF cF gT cT A loops C i k w':=
 ⟨(hb.block _ (by omega)).trans h.dia,(hb.block _ hs).trans h.dra,own_any h.from_ (grown_below hb none),own_any h.to (grown_below hb none),h.ne⟩
theorem OfAt.row {sz gF cF gT cT:Nat} {A:Value} {loops:Int} {C:List Cr} {i:Nat} {w:World} (h:OfAt sz gF cF gT cT A loops C i 4 w):OfAt sz gF cF gT cT A loops C (i+1) 0 w:=⟨h.dia,h.dra,h.from_,h.to,h.ne⟩
theorem flat_set2 (l:List (Int×Int)) (a:Nat) (i k:Int) (ha:a<l.length):((flat l).set (a*2) (.int .i64 i)).set (a*2+1) (.int .i64 k)=flat (l.set a (i,k)):=by
 rw[flat_setE _ _ _ ha,flat_setC _ _ _ (by rw[setE_length];exact ha)]
 congr 1
 unfold setC setE
 rw[List.set_set]
 congr 1
 simp[List.getD,ha]
def st2 (w:World) (g o:Nat) (a b:Value):World:=(w.setCell ⟨g,o,none⟩ a).setCell ⟨g,o+1,none⟩ b
theorem st2_grown (w:World) (g o:Nat) (a b:Value):w.grownBy (st2 w g o a b) (some g):=grown_trans (set_grown _ _ _ _) (set_grown _ _ _ _)
theorem own_st2 {w:World} {B e n g cap a:Nat} {l:List (Int×Int)} {i k:Int} (h:w.ownsRow B e 2 (.slice (some ⟨g,0,none⟩) n cap) n (flat l)) (ha:a<l.length):(st2 w g (a*2) (.int .i64 i) (.int .i64 k)).ownsRow B e 2 (.slice (some ⟨g,0,none⟩) n cap) n (flat (l.set a (i,k))):=by
 have h1:=(h.stored (a*2) (.int .i64 i)).1
 have h2:=(h1.stored (a*2+1) (.int .i64 k)).1
 rw[flat_set2 l a i k ha]at h2
 exact h2
theorem OfAt.storeT {sz gF cF gT cT a:Nat} {A:Value} {loops:Int} {C:List Cr} {i k:Nat} {w:World} (h:OfAt sz gF cF gT cT A loops C i k w) (h1:1<=a) (h2:a<=2*C.length) (hc:(C.getD i Cr.none).comes k=true) (ha:(C.getD i Cr.none).arc k=(a:Int)):OfAt sz gF cF gT cT A loops C i (k+1) (st2 w gT (a*2) (.int .i64 (i:Nat)) (.int .i64 (k:Nat))):=by
 have hg:=st2_grown w gT (a*2) (.int .i64 (i:Nat)) (.int .i64 (k:Nat))
 have hT:=(h.to.lt gT rfl)
 have hF:=(h.from_.lt gF rfl)
 refine⟨(hg.block _ (by omega) (fun e=>by have:=Option.some.inj e;omega)).trans h.dia,(hg.block _ (by omega) (fun e=>by have:=Option.some.inj e;omega)).trans h.dra,?_,?_,h.ne⟩
 · rw[ends_keep C false i k (by rw[hc];decide)]
   exact h.from_.kept hg (Or.inr (fun e=>h.ne (Option.some.inj e)))
 · rw[<-ends_set C true i k a h1 hc ha]
   exact own_st2 h.to (by rw[ends_length];omega)
theorem OfAt.storeF {sz gF cF gT cT a:Nat} {A:Value} {loops:Int} {C:List Cr} {i k:Nat} {w:World} (h:OfAt sz gF cF gT cT A loops C i k w) (h1:1<=a) (h2:a<=2*C.length) (hc:(C.getD i Cr.none).comes k=false) (ha:(C.getD i Cr.none).arc k=(a:Int)):OfAt sz gF cF gT cT A loops C i (k+1) (st2 w gF (a*2) (.int .i64 (i:Nat)) (.int .i64 (k:Nat))):=by
 have hg:=st2_grown w gF (a*2) (.int .i64 (i:Nat)) (.int .i64 (k:Nat))
 have hT:=(h.to.lt gT rfl)
 have hF:=(h.from_.lt gF rfl)
 refine⟨(hg.block _ (by omega) (fun e=>by have:=Option.some.inj e;omega)).trans h.dia,(hg.block _ (by omega) (fun e=>by have:=Option.some.inj e;omega)).trans h.dra,?_,?_,h.ne⟩
 · rw[<-ends_set C false i k a h1 hc ha]
   exact own_st2 h.from_ (by rw[ends_length];omega)
 · rw[ends_keep C true i k (by rw[hc];decide)]
   exact h.to.kept hg (Or.inr (fun e=>h.ne (Option.some.inj e).symm))
theorem index_arr (x:Cr) (k:Nat) (hk:k<4) (w:World):(Instr.index 110 (.agg #[.int .i64 x.a,.int .i64 x.b,.int .i64 x.c,.int .i64 x.d]) (.int .i64 (k:Nat))).run Try.prog w=.ok (.int .i64 (x.arc k)) w:=by
 have hk4:k=0∨k=1∨k=2∨k=3:=by omega
 rcases hk4 with rfl|rfl|rfl|rfl<;>simp[Instr.index,asIntOf,run_underlying Try.underlying110,go_sem,Cr.arc]
structure Drawn (w w':World) (B:Nat) (A:Value) (loops:Int) (C:List Cr) (D:Value):Prop where
 no:mayD C loops=false->D=noDrawing
 yes:mayD C loops=true->∃ gF cF gT cT,D=.agg #[A,.int .i64 loops,.slice (some ⟨gF,0,none⟩) (2*C.length+1) cF,.slice (some ⟨gT,0,none⟩) (2*C.length+1) cT]/\
  w'.ownsRow B 93 2 (.slice (some ⟨gF,0,none⟩) (2*C.length+1) cF) (2*C.length+1) (flat (ends C false C.length 0))/\
  w'.ownsRow B 93 2 (.slice (some ⟨gT,0,none⟩) (2*C.length+1) cT) (2*C.length+1) (flat (ends C true C.length 0))
end Go.Proofs.Ytefooihnoajnlaa
/- Plain mathematics: overpasses; labels that are merged edge by edge come to the least of what is joined. -/
namespace Go.Proofs.Ytefooihnoajnlaa
def mer (W:List Nat) (x y:Nat):List Nat:=W.map fun z=>if z=max (W.getD x 0) (W.getD y 0) then min (W.getD x 0) (W.getD y 0) else z
theorem mer_len (W:List Nat) (x y:Nat):(mer W x y).length=W.length:=by simp[mer]
theorem mer_at (W:List Nat) (x y v:Nat) (hv:v<W.length):(mer W x y).getD v 0=if W.getD v 0=max (W.getD x 0) (W.getD y 0) then min (W.getD x 0) (W.getD y 0) else W.getD v 0:=by
 simp[mer,List.getD_eq_getElem?_getD,hv]
theorem mer_least {F:List (Nat×Nat)} {n:Nat} {W:List Nat} (h:Least F n W) (x y:Nat) (hx:x<n) (hy:y<n) (hF:∀ e,e∈F->e.1<n/\e.2<n):Least (F++[(x,y)]) n (mer W x y):=by
 obtain⟨hl,h2⟩:=h
 have up:∀ {u v:Nat},Con F u v->Con (F++[(x,y)]) u v:=fun hc S hS hu=>hc S (fun e he=>hS e (List.mem_append_left _ he)) hu
 have hxy:Con (F++[(x,y)]) x y:=Con.edge (List.mem_append_right _ (List.Mem.head _))
 have lx:=up (h2 x hx).1
 have ly:=up (h2 y hy).1
 have hWW:Con (F++[(x,y)]) (W.getD x 0) (W.getD y 0):=lx.symm.trans (hxy.trans ly)
 have hmm:Con (F++[(x,y)]) (max (W.getD x 0) (W.getD y 0)) (min (W.getD x 0) (W.getD y 0)):=by
  rcases Nat.le_total (W.getD x 0) (W.getD y 0) with hle|hle
  · rw[Nat.max_eq_right hle,Nat.min_eq_left hle];exact hWW.symm
  · rw[Nat.max_eq_left hle,Nat.min_eq_right hle];exact hWW
 have hcon:∀ v,v<n->Con (F++[(x,y)]) v ((mer W x y).getD v 0):=fun v hv=>by
  rw[mer_at W x y v (by omega)]
  split
  · rename_i he
    have:=up (h2 v hv).1
    rw[he]at this
    exact this.trans hmm
  · exact up (h2 v hv).1
 have hle:∀ v,v<n->(mer W x y).getD v 0<=v:=fun v hv=>by
  have h3:=(h2 v hv).2 v (Con.refl F v)
  rw[mer_at W x y v (by omega)]
  split
  · rename_i he;omega
  · exact h3
 refine⟨by rw[mer_len];exact hl,fun v hv=>⟨hcon v hv,fun u hu=>?_⟩⟩
 have hcl:Closed (F++[(x,y)]) (fun z=>z<n/\(mer W x y).getD z 0=(mer W x y).getD v 0):=fun e he=>by
  rcases List.mem_append.1 he with h4|h4
  · obtain⟨e1,e2⟩:=hF e h4
    have hs:W.getD e.1 0=W.getD e.2 0:=by
     have c:Con F e.1 e.2:=Con.edge (by cases e;exact h4)
     exact Nat.le_antisymm ((h2 _ e1).2 _ (c.trans (h2 _ e2).1)) ((h2 _ e2).2 _ (c.symm.trans (h2 _ e1).1))
    have hm:(mer W x y).getD e.1 0=(mer W x y).getD e.2 0:=by
     rw[mer_at W x y _ (by omega),mer_at W x y _ (by omega),hs]
    show(e.1<n/\(mer W x y).getD e.1 0=_)↔(e.2<n/\(mer W x y).getD e.2 0=_)
    rw[hm];exact⟨fun q=>⟨e2,q.2⟩,fun q=>⟨e1,q.2⟩⟩
  · have:e=(x,y):=by simpa using h4
    subst this
    have hm:(mer W x y).getD x 0=(mer W x y).getD y 0:=by
     rw[mer_at W x y _ (by omega),mer_at W x y _ (by omega)]
     split<;>split<;>omega
    show(x<n/\(mer W x y).getD x 0=_)↔(y<n/\(mer W x y).getD y 0=_)
    rw[hm];exact⟨fun q=>⟨hy,q.2⟩,fun q=>⟨hx,q.2⟩⟩
 obtain⟨a1,a2⟩:=hu _ hcl ⟨hv,rfl⟩
 rw[<-a2]
 exact hle u a1
def mers (W:List Nat):List (Nat×Nat)->List Nat
 |[]=>W
 |e::E=>mers (mer W e.1 e.2) E
theorem least_nil (n:Nat):Least [] n (List.range n):=by
 refine⟨by simp,fun v hv=>?_⟩
 have e:(List.range n).getD v 0=v:=by simp[List.getD_eq_getElem?_getD,hv]
 rw[e]
 exact ⟨Con.refl _ v, fun u hu => by
  have:=hu (fun z=>z=v) (fun e he=>by cases he) rfl
  omega⟩
theorem mers_least (n:Nat):∀ (E F:List (Nat×Nat)) (W:List Nat),(∀ e,e∈F++E->e.1<n/\e.2<n)->Least F n W->Least (F++E) n (mers W E):=by
 intro E
 induction E with
 |nil=>intro F W _ h;simpa[mers] using h
 |cons e E ih=>
  intro F W hE h
  obtain⟨e1,e2⟩:=hE e (by simp)
  have h':=mer_least h e.1 e.2 e1 e2 (fun f hf=>hE f (List.mem_append_left _ hf))
  have:=ih (F++[(e.1,e.2)]) _ (fun f hf=>hE f (by simpa using hf)) h'
  simpa[mers] using this
theorem Least.root {E:List (Nat×Nat)} {n:Nat} {W:List Nat} (h:Least E n W) {v:Nat} (hv:v<n):W.getD (W.getD v 0) 0=W.getD v 0:=(h.same (h.lt hv) hv).2 (h.2 v hv).1.symm
theorem Least.le {E:List (Nat×Nat)} {n:Nat} {W:List Nat} (h:Least E n W) {v:Nat} (hv:v<n):W.getD v 0<=v:=(h.2 v hv).2 v (Con.refl E v)
theorem Least.pos {E:List (Nat×Nat)} {n:Nat} {W:List Nat} (h:Least E n W) (hE:∀ e,e∈E->1<=e.1/\1<=e.2) {v:Nat} (hv:v<n) (h1:1<=v):1<=W.getD v 0:=by
 have:=(h.2 v hv).1 (fun z=>1<=z) (fun e he=>by simp[hE e he]) h1
 exact this
end Go.Proofs.Ytefooihnoajnlaa
/- A row that is taken from at its head and appended to at its end: in the world, and the step of append upon it. -/
namespace Go.Proofs.Ytefooihnoajnlaa
open Go.RowKit
def QueAt (w:World) (base:Nat) (e:TypeId) (v:Value) (xs:List Value):Prop:=
 ∃ g off cap cur,v=.slice (some ⟨g,off,none⟩) xs.length cap/\base<=g/\w.heap[g]?=some (.cells cur e (0,0))/\xs.length<=cap/\cap<=maxLen/\off+cap<=cur.size/\(cur.toList.drop off).take xs.length=xs
theorem QueAt.kept {w w':World} {base:Nat} {e:TypeId} {v:Value} {xs:List Value} {row:Option Nat} (h:QueAt w base e v xs) (hg:w.grownBy w' row) (hne:v.ownBlock≠row):QueAt w' base e v xs:=by
 obtain⟨g,off,cap,cur,rfl,hb,hgg,rest⟩:=h
 refine⟨g,off,cap,cur,rfl,hb,?_,rest⟩
 rw[hg.block g (Array.getElem?_eq_some_iff.1 hgg).1 (by simpa[Value.ownBlock] using hne)]
 exact hgg
theorem QueAt.lt {w:World} {base:Nat} {e:TypeId} {v:Value} {xs:List Value} (h:QueAt w base e v xs):∀ k,v.ownBlock=some k->base<=k/\k<w.heap.size:=by
 intro k hk
 obtain⟨g,off,cap,cur,rfl,hb,hgg,rest⟩:=h
 have e:=Option.some.inj hk
 have e2:g=k:=e
 subst e2
 exact⟨hb,(Array.getElem?_eq_some_iff.1 hgg).1⟩
theorem QueAt.shape {w:World} {base:Nat} {e:TypeId} {v:Value} {xs:List Value} (h:QueAt w base e v xs):∃ g off cap,v=.slice (some ⟨g,off,none⟩) xs.length cap/\xs.length<=cap:=by
 obtain⟨g,off,cap,cur,rfl,_,_,h2,_⟩:=h
 exact⟨g,off,cap,rfl,h2⟩
theorem QueAt.size {w:World} {base g off n cap:Nat} {e:TypeId} {xs:List Value} (h:QueAt w base e (.slice (some ⟨g,off,none⟩) n cap) xs):n=xs.length/\n<=cap/\cap<=maxLen/\base<=g/\g<w.heap.size:=by
 obtain⟨g',off',cap',cur,ev,hb,hgg,h1,h2,_⟩:=h
 injection ev with e1 e2 e3
 injection e1 with e1
 injection e1 with e4 e5
 subst e4 e2 e3
 exact⟨rfl,h1,h2,hb,(Array.getElem?_eq_some_iff.1 hgg).1⟩
theorem QueAt.cell {w:World} {base g off n cap:Nat} {e:TypeId} {xs:List Value} (h:QueAt w base e (.slice (some ⟨g,off,none⟩) n cap) xs) (j:Nat) (u:Value) (hj:xs[j]?=some u):w.cell? ⟨g,off+j,none⟩=some u:=by
 obtain⟨g',off',cap',cur,ev,hb,hgg,h1,h2,h3,h4⟩:=h
 injection ev with e1 e2 e3
 injection e1 with e1
 injection e1 with e4 e5
 subst e4 e5
 rw[cell_of_row w g _ cur e (0,0) hgg]
 rw[<-h4,List.getElem?_take]at hj
 split at hj
 · rw[List.getElem?_drop]at hj
   simpa using hj
 · cases hj
theorem QueAt.tail {w:World} {base g off n cap:Nat} {e:TypeId} {x:Value} {xs:List Value} (h:QueAt w base e (.slice (some ⟨g,off,none⟩) n cap) (x::xs)):QueAt w base e (.slice (some ⟨g,off+1,none⟩) (n-1) (cap-1)) xs:=by
 obtain⟨g',off',cap',cur,ev,hb,hgg,h1,h2,h3,h4⟩:=h
 injection ev with e1 e2 e3
 injection e1 with e1
 injection e1 with e4 e5
 subst e4 e5 e3
 simp only[List.length_cons]at e2 h1 h4
 refine⟨g,off+1,cap-1,cur,by rw[e2];simp,hb,hgg,by omega,by omega,by omega,?_⟩
 have h5:((cur.toList.drop off).take (xs.length+1)).drop 1=xs:=by rw[h4];rfl
 rw[List.drop_take,List.drop_drop]at h5
 simpa using h5
theorem QueAt.tail1 {w:World} {base g off n:Nat} {e:TypeId} {x:Value} {xs:List Value} (h:QueAt w base e (.slice (some ⟨g,off,none⟩) n 1) (x::xs)):QueAt w base e (.slice (some ⟨g,off,none⟩) (n-1) 0) xs/\xs=[]:=by
 obtain⟨g',off',cap',cur,ev,hb,hgg,h1,h2,h3,h4⟩:=h
 injection ev with e1 e2 e3
 injection e1 with e1
 injection e1 with e4 e5
 subst e4 e5 e3
 simp only[List.length_cons]at e2 h1 h4
 have hx:xs=[]:=List.length_eq_zero_iff.1 (by omega)
 subst hx
 exact⟨⟨g,off,0,cur,by rw[e2];simp,hb,hgg,Nat.zero_le _,Nat.zero_le _,by omega,by simp⟩,rfl⟩
theorem QueAt.made {w:World} {base g n cap:Nat} {e:TypeId} {xs:List Value} (h:w.ownsRow base e 1 (.slice (some ⟨g,0,none⟩) n cap) n xs):QueAt w base e (.slice (some ⟨g,0,none⟩) n cap) xs:=by
 obtain⟨hl,h⟩:=h
 rcases h with⟨h,_⟩|⟨g',cap',cur,ev,hb,hgg,h1,h2,h3,h4⟩
 · cases h
 · injection ev with e1 e2 e3
   injection e1 with e1
   injection e1 with e4
   subst e4 e3
   rw[Nat.mul_one]at hl h3 h4
   exact⟨g,0,cap,cur,by rw[hl],hb,hgg,by omega,h2,by omega,by rw[hl];simpa using h4⟩
theorem run_append_que {P : Program} (w : World) (base : Nat) (t ty e : TypeId) (i : TypeInfo) (z : Value) (bytes : Nat) (ht : P.underlying t = some (.slice e)) (hi : P.info? e = some i) (hz : i.zero = some z)
    (hsize:i.size=1) (hby:i.bytes=bytes) (hzs:z.cells.size=1)
    (v:Value) (xs:List Value) (hown:QueAt w base e v xs)
    (a:Addr) (c:Nat) (u:Value) (hnews:w.cell? a=some u) (h1:u.oneCell'=true)
    (h63:xs.length+1<=maxLen) (hbytes:(xs.length+1)*bytes<=140737488355328) (hbase:base<=w.heap.size):
    ∃ v' w',(Builtin.append_ #[t,t] ty #[v,.slice (some a) 1 c]).run P w=.ok v' w'/\QueAt w' base e v' (xs++[u])/\w.grownBy w' v.ownBlock:=by
 subst hby
 have hsmall:xs.length+1<=9223372036854775807:=by simp only[maxLen]at h63;omega
 have hl:[u].length=1*i.size:=by rw[hsize];rfl
 have hcells:∀ j v,[u][j]?=some v->w.cell? (a.add j)=some v:=by
  intro j v hj
  cases j with
  |zero=>
   have e:v=u:=by simpa using hj.symm
   subst e
   have ha:a.add 0=a:=by unfold Addr.add;split<;>simp_all
   rw[ha]
   exact hnews
  |succ j=>simp at hj
 obtain⟨g,off,cap,cur,rfl,hb,hgg,hnc,hcm,hcs,htake⟩:=hown
 by_cases hroom:xs.length+1<=cap
 · have hf:=run_firstCells_some (P:=P) w i.size 1 a 1 c [u] hl hcells
   have hst:=run_storeCells_at P g (off+xs.length) e [u] 0 cur w hgg (by simp;omega) (by simpa using h1)
   simp only[Nat.add_zero]at hst
   refine⟨.slice (some ⟨g,off,none⟩) (xs.length+1) cap,w.setRow g (cur.toList.take (off+xs.length)++[u]++cur.toList.drop (off+xs.length+[u].length)).toArray,?_,⟨g,off,cap,_,by simp,hb,setRow_heap w g cur _ e _ hgg,by simpa using hroom,hcm,?_,?_⟩,⟨rfl,rfl,rfl,by simp,fun k _ hk=>setRow_other w g k _ (fun e=>hk (by simp[Value.ownBlock,e]))⟩⟩
   · rw[hsize]at hf
     simp[Builtin.append_,run_underlying ht,sizeOf,typeInfo,hi,hsize,Builtin.lenOf,hroom,hf,Addr.add_lit]
     simp at hst
     simp[hst]
   · simp only[List.size_toArray,List.length_append,List.length_take,List.length_drop,Array.length_toList,List.length_cons,List.length_nil]
     omega
   · have h5:(cur.toList.take (off+xs.length)).drop off=xs:=by rw[List.drop_take,Nat.add_sub_cancel_left];exact htake
     simp only[List.append_assoc]
     rw[List.drop_append_of_le_length (by simp;omega),h5,<-List.append_assoc]
     exact List.take_left
 · have holds : ∀ j v, xs[j]? = some v → w.cell? ((⟨g, off, none⟩ : Addr).add j) = some v := fun j v hj => by
     have hadd:(⟨g,off,none⟩:Addr).add j=⟨g,off+j,none⟩:=by unfold Addr.add;split<;>simp_all
     rw[hadd]
     exact QueAt.cell (⟨g,off,cap,cur,rfl,hb,hgg,hnc,hcm,hcs,htake⟩:QueAt w base e (.slice (some ⟨g,off,none⟩) xs.length cap) xs) j v hj
   have hr:=run_append_grow (P:=P) w t ty e i z ht hi hz ⟨g,off,none⟩ xs.length cap xs (by rw[hsize,Nat.mul_one]) holds a 1 c [u] hl hcells (by omega) (by omega) (growslice_fits (by omega) hbytes)
   have hge:=grownCap_ge w (xs.length+1) cap e
   refine⟨_,_,hr,⟨w.heap.size,0,_,_,by simp,hbase,heap_alloc_new w.drew _,by simpa using hge,grownCap_le_maxLen w (xs.length+1) cap e h63,?_,?_⟩,⟨rfl,rfl,rfl,by simp,fun k hk _=>Array.getElem?_push_lt hk▸(Array.getElem?_eq_getElem hk).symm⟩⟩
   · simp only[Array.size_append,List.size_toArray,size_zeroCells,hzs,List.length_cons,List.length_nil]
     omega
   · simp only[Array.toList_append,List.drop_zero]
     exact List.take_left
theorem wpList_append_que {P : Program} (w : World) {ops : Array Oper} {rest : List Oper} {o : Oper} {a : Act} {Q : Exit → Act → World → Prop} (hgd : o.guard = none) (s x : Operand) (t : TypeId)
    (ho:o.op=.call { callee:=.builtin .append,args:=#[s,x],argTypes:=#[t,t] })
    (base:Nat) (e:TypeId) (i:TypeInfo) (z:Value) (bytes:Nat) (ht:P.underlying t=some (.slice e)) (hi:P.info? e=some i) (hz:i.zero=some z)
    (hsize:i.size=1) (hby:i.bytes=bytes) (hzs:z.cells.size=1)
    (v:Value) (xs:List Value) (hs:a.eval s=v) (hown:QueAt w base e v xs)
    (ad:Addr) (c:Nat) (u:Value) (hx:a.eval x=.slice (some ad) 1 c) (hnews:w.cell? ad=some u) (h1:u.oneCell'=true)
    (h63:xs.length+1<=maxLen) (hbytes:(xs.length+1)*bytes<=140737488355328) (hbase:base<=w.heap.size)
    (h:∀ v' w',QueAt w' base e v' (xs++[u])->w.grownBy w' v.ownBlock->wpList P ops Q rest (a.put o.dst v') w'):wpList P ops Q (o::rest) a w:=by
 refine wpList_plain hgd fun _ hK=>?_
 obtain⟨v',w',hr,h2,h3⟩:=run_append_que (P:=P) w base t o.type e i z bytes ht hi hz hsize hby hzs v xs hown ad c u hnews h1 h63 hbytes hbase
 unfold Oper.wp execOp
 simp only[ho,resolve,invoke,builtin,Sem.run_bind,Sem.run_pure,Result.andThen_ok,List.map_toArray,List.map_cons,List.map_nil,hs,hx,hr]
 exact hK _ _ (h v' w' h2 h3)
end Go.Proofs.Ytefooihnoajnlaa
