/- Several texts of the proof, one behind the other. -/
import Derived.Test.YtgagenmkpmmpfaaO0P
import Derived.Test.YtgagenmkpmmpfaaBaseP
import Derived.Test.YtgagenmkpmmpfaaAS0P
import Derived.Laws.AppendOwnNone
/- The walks of Drawing.End, Drawing.Onward, way; ref.dartCode, ref.NextDart. -/
namespace Go.Proofs.Ytgagenmkpmmpfaa
open Go.RowKit
set_option maxHeartbeats 2000000
set_option maxRecDepth 100000
theorem Dr.endAt {w : World} {a : Option Addr} {cap : Nat} {C : List Cr} {gF gT : Nat} {loops : Int} (h : Dr w a cap C gF gT) (hm : mayD C loops = true) (x : Nat) (h1 : 1 ≤ x) (h2 : x ≤ 2 * C.length) :
    w.cell? ⟨gT,x*2,none⟩=some (.int .i64 (enC C x true:Nat))/\w.cell? ⟨gT,x*2+1,none⟩=some (.int .i64 (enS C x true:Nat))/\w.cell? ⟨gF,x*2,none⟩=some (.int .i64 (enC C x false:Nat))/\w.cell? ⟨gF,x*2+1,none⟩=some (.int .i64 (enS C x false:Nat)):=by
 have hT:=h.to x (by rw[ends_length];omega)
 have hF:=h.from_ x (by rw[ends_length];omega)
 rw[ends_at C true C.length 0 x h1 h2,Nat.zero_add]at hT
 rw[ends_at C false C.length 0 x h1 h2,Nat.zero_add]at hF
 have e:endAh C x true C.length 0=endTo C x true C.length:=rfl
 have e2:endAh C x false C.length 0=endTo C x false C.length:=rfl
 rw[e,(en_may hm x true h1 h2).1]at hT
 rw[e2,(en_may hm x false h1 h2).1]at hF
 exact⟨hT.1,hT.2,hF.1,hF.2⟩
theorem end_any (a : Option Addr) (cap : Nat) (C : List Cr) (loops : Int) (gF cF gT cT : Nat) (x : Nat) (p : Bool) (w : World) (hm : mayD C loops = true) (h1 : 1 ≤ x) (h2 : x ≤ 2 * C.length) (hD : Dr w a cap C gF gT) :
    Calls Try.prog 35 #[drV a cap C loops gF cF gT cT,.agg #[.int .i64 x,.bool p]] w fun e w'=>e=.returned (.agg #[.int .i64 (enC C x (!p):Nat),.int .i64 (enS C x (!p):Nat)])/\Below w.heap.size w w':=by
 unfold drV
 obtain⟨c0,c1,c2,c3⟩:=hD.endAt hm x h1 h2
 have l1:=hD.ltT
 have l2:=hD.ltF
 clear hD
 have hB3:Below w.heap.size w (((w.alloc (.cells #[.slice a C.length cap,.int .i64 loops,.slice (some ⟨gF,0,none⟩) (2*C.length+1) cF,.slice (some ⟨gT,0,none⟩) (2*C.length+1) cT] 52)).alloc (.cells #[.int .i64 x,.bool p] 90)).alloc (.cells #[.int .i64 0,.int .i64 0] 66)):=below3 _ _ _ _
 have d0:=bcell hB3 l1 c0
 have d1:=bcell hB3 l1 c1
 have d2:=bcell hB3 l2 c2
 have d3:=bcell hB3 l2 c3
 clear hB3 c0 c1 c2 c3
 obtain⟨t0,ht0⟩:∃ t0,enC C x true=t0:=⟨_,rfl⟩
 obtain⟨t1,ht1⟩:∃ t1,enS C x true=t1:=⟨_,rfl⟩
 obtain⟨f0,hf0⟩:∃ f0,enC C x false=f0:=⟨_,rfl⟩
 obtain⟨f1,hf1⟩:∃ f1,enS C x false=f1:=⟨_,rfl⟩
 rw[ht0]at d0
 rw[ht1]at d1
 rw[hf0]at d2
 rw[hf1]at d3
 have hx:x<2*C.length+1:=by omega
 cases p with
 |true=>
  have hG:(((w.alloc (.cells #[.slice a C.length cap,.int .i64 loops,.slice (some ⟨gF,0,none⟩) (2*C.length+1) cF,.slice (some ⟨gT,0,none⟩) (2*C.length+1) cT] 52)).alloc (.cells #[.int .i64 x,.bool true] 90)).alloc (.cells #[.int .i64 f0,.int .i64 f1] 66)).heap[w.heap.size+1+1]?=some (.cells #[.int .i64 f0,.int .i64 f1] 66 (0,0)):=alloc_at (by simp)
  have x0:=block_cell (i:=0) (v:=.int .i64 f0) hG rfl
  have x1:=block_cell (i:=1) (v:=.int .i64 f1) hG rfl
  have HB:Hid (Below w.heap.size w (((w.alloc (.cells #[.slice a C.length cap,.int .i64 loops,.slice (some ⟨gF,0,none⟩) (2*C.length+1) cF,.slice (some ⟨gT,0,none⟩) (2*C.length+1) cT] 52)).alloc (.cells #[.int .i64 x,.bool true] 90)).alloc (.cells #[.int .i64 f0,.int .i64 f1] 66))):=below3 _ _ _ _
  clear hG
  go_enter Try.func35,Try.ntmps35
  go_wp2
  exact bodyPost_ret (v:=.agg #[.int .i64 f0,.int .i64 f1]) (by simp[results,Try.results35,go_sem,x0,x1]) rfl ⟨by simp[hf0,hf1],HB.out⟩
 |false=>
  have hG:(((w.alloc (.cells #[.slice a C.length cap,.int .i64 loops,.slice (some ⟨gF,0,none⟩) (2*C.length+1) cF,.slice (some ⟨gT,0,none⟩) (2*C.length+1) cT] 52)).alloc (.cells #[.int .i64 x,.bool false] 90)).alloc (.cells #[.int .i64 t0,.int .i64 t1] 66)).heap[w.heap.size+1+1]?=some (.cells #[.int .i64 t0,.int .i64 t1] 66 (0,0)):=alloc_at (by simp)
  have x0:=block_cell (i:=0) (v:=.int .i64 t0) hG rfl
  have x1:=block_cell (i:=1) (v:=.int .i64 t1) hG rfl
  have HB:Hid (Below w.heap.size w (((w.alloc (.cells #[.slice a C.length cap,.int .i64 loops,.slice (some ⟨gF,0,none⟩) (2*C.length+1) cF,.slice (some ⟨gT,0,none⟩) (2*C.length+1) cT] 52)).alloc (.cells #[.int .i64 x,.bool false] 90)).alloc (.cells #[.int .i64 t0,.int .i64 t1] 66))):=below3 _ _ _ _
  clear hG
  go_enter Try.func35,Try.ntmps35
  go_wp2
  exact bodyPost_ret (v:=.agg #[.int .i64 t0,.int .i64 t1]) (by simp[results,Try.results35,go_sem,x0,x1]) rfl ⟨by simp[ht0,ht1],HB.out⟩
theorem way_any (x : Int) (p : Bool) (w : World) :
    Calls Try.prog 50 #[.agg #[.int .i64 x,.bool p]] w fun e w'=>e=.returned (.int .i64 (if p=true then 1 else 0))/\Below w.heap.size w w':=by
 go_enter Try.func50,Try.ntmps50
 cases p with
 |true=>
  go_wp2
  go_ret
  exact⟨rfl,(Below.refl _ _).alloc (Nat.le_refl _) _⟩
 |false=>
  go_wp2
  go_ret
  exact⟨rfl,(Below.refl _ _).alloc (Nat.le_refl _) _⟩
end Go.Proofs.Ytgagenmkpmmpfaa
/- Plain mathematics: the walks along a renaming begin each at the lowest of its ring: there are as many as rings. -/
namespace Go.Proofs.Ytgagenmkpmmpfaa
def up0 (f:Nat->Nat) (x:Nat):Nat:=if x=0 then 0 else f x
theorem up0_pos (f:Nat->Nat) {x:Nat} (h:1<=x):up0 f x=f x:=by unfold up0;rw[if_neg (by omega)]
theorem bij_up0 {f:Nat->Nat} {n:Nat} (hf:∀ a,1<=a->a<=n->1<=f a/\f a<=n) (hi:∀ a b,1<=a->a<=n->1<=b->b<=n->f a=f b->a=b):Bij (up0 f) (n+1):=by
 refine⟨fun x hx=>?_,fun x y hx hy e=>?_⟩
 · by_cases h:x=0
   · rw[h];exact Nat.succ_pos n
   · rw[up0_pos f (by omega)];have:=hf x (by omega) (by omega);omega
 · by_cases h:x=0
   · by_cases g:y=0
     · omega
     · rw[h,up0_pos f (show 1<=y by omega)]at e
       have:=hf y (by omega) (by omega)
       have e0:up0 f 0=0:=rfl
       omega
   · by_cases g:y=0
     · rw[g,up0_pos f (show 1<=x by omega)]at e
       have:=hf x (by omega) (by omega)
       have e0:up0 f 0=0:=rfl
       omega
     · rw[up0_pos f (show 1<=x by omega),up0_pos f (show 1<=y by omega)]at e
       exact hi x y (by omega) (by omega) (by omega) (by omega) e
theorem walkF_head (f:Nat->Nat):∀ (m:Nat) (seen:List Bool) (x z:Nat) (acc:List Nat),(walkF f m seen x (z::acc)).1.getD 0 0=z/\(walkF f m seen x (z::acc)).1≠[]:=by
 intro m
 induction m with
 |zero=>intro seen x z acc;exact⟨rfl,by simp[walkF]⟩
 |succ m ih=>
  intro seen x z acc
  simp only[walkF]
  split
  · exact⟨rfl,by simp⟩
  · exact ih _ _ z (acc++[x])
theorem walkF_new (f:Nat->Nat) (m:Nat) (seen:List Bool) (x:Nat) (h:un seen x=1):(walkF f (m+1) seen x []).1.getD 0 0=x/\(walkF f (m+1) seen x []).1≠[]:=by
 have h1:¬ seen.getD x true=true:=fun q=>by unfold un at h;rw[if_pos q]at h;omega
 simp only[walkF]
 rw[if_neg h1]
 exact walkF_head f m _ _ x []
theorem un_seen {seen:List Bool} {x:Nat} (h:un seen x=0):seen.getD x true=true:=by
 refine Classical.byContradiction fun q=>?_
 unfold un at h
 rw[if_neg q]at h
 omega
theorem seen_in {f:Nat->Nat} {n a y:Nat} (h1:1<=y) (h2:y<=n):un (walksTo f n a).2 y=0↔∃ l,l∈(walksTo f n a).1/\y∈l:=by
 have h:=walksTo_one f n a y h1 h2
 have hc:1<=(walksTo f n a).1.flatten.count y↔∃ l,l∈(walksTo f n a).1/\y∈l:=by rw[List.one_le_count_iff,List.mem_flatten]
 rw[<-hc]
 omega
theorem zero_apart {f:Nat->Nat} {n:Nat} (hf:∀ a,1<=a->a<=n->1<=f a/\f a<=n) {x:Nat} (hx:1<=x):¬ Con (eds (up0 f) (n+1)) x 0:=fun hc=>by
 have := hc (fun z => 1 ≤ z) (closed_eds.2 fun i hi => by
  by_cases h:i=0
  · subst h;exact Iff.rfl
  · rw[up0_pos f (by omega)]
    have:=(hf i (by omega) (by omega)).1
    exact⟨fun _=>this,fun _=>by omega⟩) hx
 exact absurd this (by decide)
theorem seen_closed {f:Nat->Nat} {n:Nat} (hf:∀ a,1<=a->a<=n->1<=f a/\f a<=n) (hi:∀ a b,1<=a->a<=n->1<=b->b<=n->f a=f b->a=b) (a:Nat) (ha:a<=n):Closed (eds (up0 f) (n+1)) fun z=>1<=z/\un (walksTo f n a).2 z=0:=by
 obtain⟨r1,r2,-⟩:=rings_closed hf hi a ha
 refine closed_eds.2 fun i hin=>?_
 by_cases h:i=0
 · subst h;exact Iff.rfl
 · rw[up0_pos f (by omega)]
   have hfi:=hf i (by omega) (by omega)
   constructor
   · rintro⟨h1,h2⟩
     obtain⟨l,hl,hy⟩:=(seen_in h1 (by omega)).1 h2
     exact⟨hfi.1,(seen_in hfi.1 hfi.2).2 ⟨l,hl,r1 l hl i hy⟩⟩
   · rintro⟨-,h2⟩
     exact⟨by omega,r2 i (by omega) (by omega) h2⟩
theorem ring_con {f:Nat->Nat} {n:Nat} {l:List Nat} (hm:∀ y,y∈l->1<=y/\y<=n) (hc:∀ i,i+1<l.length->l.getD (i+1) 0=f (l.getD i 0)):∀ i,i<l.length->Con (eds (up0 f) (n+1)) (l.getD 0 0) (l.getD i 0):=by
 intro i
 induction i with
 |zero=>intro _;exact Con.refl _ _
 |succ i ih=>
  intro hi
  have hb:=hm _ (at_mem (l:=l) (i:=i) (by omega))
  have h1:=con_f (f:=up0 f) (M:=n+1) (x:=l.getD i 0) (by omega)
  rw[up0_pos f hb.1,<-hc i hi]at h1
  exact(ih (by omega)).trans h1
theorem heads_roots {f : Nat → Nat} {n : Nat} (hf : ∀ a, 1 ≤ a → a ≤ n → 1 ≤ f a ∧ f a ≤ n) (hi : ∀ a b, 1 ≤ a → a ≤ n → 1 ≤ b → b ≤ n → f a = f b → a = b) : ∀ a, a ≤ n →
    (∀ l,l∈(walksTo f n a).1->1<=l.getD 0 0/\l.getD 0 0<=a)/\
    ∀ Q:Nat->Bool,Q 0=false->(walksTo f n a).1.countP (fun l=>Q (l.getD 0 0))=rq (cyW (up0 f) (n+1)) Q (a+1):=by
 have hB:=bij_up0 hf hi
 have hW:=cyW_least hB.lt
 intro a
 induction a with
 |zero=>
  intro _
  refine⟨fun l hl=>absurd hl (by simp[walksTo]),fun Q q0=>?_⟩
  simp[walksTo,rq,q0]
 |succ a ih=>
  intro ha
  obtain⟨i1,i2⟩:=ih (by omega)
  have hcl:=seen_closed hf hi a (by omega)
  have hin:=walksTo_mem hf a (by omega)
  obtain⟨-,-,r3⟩:=rings_closed hf hi a (by omega)
  by_cases hs:un (walksTo f n a).2 (a+1)=0
  · have e : walksTo f n (a + 1) = walksTo f n a := by
      simp only[walksTo]
      rw[walkF_seen (un_seen hs)]
      rfl
    rw[e]
    refine⟨fun l hl=>⟨(i1 l hl).1,by have:=(i1 l hl).2;omega⟩,fun Q q0=>?_⟩
    rw[i2 Q q0]
    have hnr:(cyW (up0 f) (n+1)).getD (a+1) 0≠a+1:=fun q=>by
     obtain⟨l,hl,hy⟩:=(seen_in (by omega) ha).1 hs
     obtain⟨i,hil,ei⟩:=mem_atZ hy
     have hc:=ring_con (f:=f) (n:=n) (hin l hl).2.2 (r3 l hl).1 i hil
     rw[ei]at hc
     have:=(hW.2 (a+1) (by omega)).2 _ hc.symm
     have:=(i1 l hl).2
     omega
    show _=rq (cyW (up0 f) (n+1)) Q (a+1)+(if(cyW (up0 f) (n+1)).getD (a+1) 0=a+1/\Q (a+1)=true then 1 else 0)
    rw[if_neg fun q=>hnr q.1]
    rfl
  · have hs1:un (walksTo f n a).2 (a+1)=1:=by have:=un_le (walksTo f n a).2 (a+1);omega
    obtain⟨hh,hne⟩:=walkF_new f n (walksTo f n a).2 (a+1) hs1
    have e:(walksTo f n (a+1)).1=(walksTo f n a).1++[(walkF f (n+1) (walksTo f n a).2 (a+1) []).1]:=by
     simp only[walksTo]
     rw[if_neg hne]
    rw[e]
    refine⟨fun l hl=>?_,fun Q q0=>?_⟩
    · rcases List.mem_append.1 hl with h|h
      · exact⟨(i1 l h).1,by have:=(i1 l h).2;omega⟩
      · rw[List.mem_singleton.1 h,hh];omega
    · have hr : (cyW (up0 f) (n + 1)).getD (a + 1) 0 = a + 1 := by
        refine Classical.byContradiction fun q=>?_
        have hle:=hW.le (v:=a+1) (by omega)
        have hcn:=(hW.2 (a+1) (by omega)).1
        generalize hu:(cyW (up0 f) (n+1)).getD (a+1) 0=u at q hle hcn
        by_cases h0:u=0
        · rw[h0]at hcn
          exact zero_apart hf (by omega) hcn
        · have:=hcn.symm _ hcl ⟨by omega,walksTo_seen f n a u (by omega) (by omega)⟩
          exact hs this.2
      rw[List.countP_append,i2 Q q0]
      show _=rq (cyW (up0 f) (n+1)) Q (a+1)+(if(cyW (up0 f) (n+1)).getD (a+1) 0=a+1/\Q (a+1)=true then 1 else 0)
      rw[List.countP_singleton,hh]
      by_cases hq:Q (a+1)=true
      · rw[if_pos hq,if_pos ⟨hr,hq⟩]
      · rw[if_neg hq,if_neg fun q=>hq q.2]
theorem walks_cyN {f:Nat->Nat} {n:Nat} (hf:∀ a,1<=a->a<=n->1<=f a/\f a<=n) (hi:∀ a b,1<=a->a<=n->1<=b->b<=n->f a=f b->a=b) (Q:Nat->Bool) (q0:Q 0=false):(walksTo f n n).1.countP (fun l=>Q (l.getD 0 0))=cyN (up0 f) (n+1) Q:=(heads_roots hf hi n (Nat.le_refl _)).2 Q q0
end Go.Proofs.Ytgagenmkpmmpfaa
/- Diagrams under way: crossings that are appended to one; the walks of drawing.crossOf and drawing.Turned. -/
namespace Go.Proofs.Ytgagenmkpmmpfaa
open Go.RowKit
set_option maxHeartbeats 4000000
set_option maxRecDepth 100000
structure OutAt (w:World) (B g:Nat) (v:Value) (loops:Int) (C:List Cr):Prop where
 box:w.heap[g]?=some (.cells #[v,.int .i64 loops] 29 (0,0))
 row:w.ownsRow B 78 5 v C.length (crossCells C)
theorem OutAt.nil {w:World} {B g:Nat} {loops:Int} (h:w.heap[g]?=some (.cells #[.slice none 0 0,.int .i64 loops] 29 (0,0))):OutAt w B g (.slice none 0 0) loops []:=⟨h,World.ownsRow_nil _ _ _ _⟩
theorem OutAt.on {w w':World} {B g:Nat} {v:Value} {loops:Int} {C:List Cr} (h:OutAt w B g v loops C) (hb:Below w.heap.size w w'):OutAt w' B g v loops C:=
 ⟨(hb.block _ (Array.getElem?_eq_some_iff.1 h.box).1).trans h.box,own_any h.row (grown_below hb none)⟩
theorem OutAt.kept {w w':World} {B g q:Nat} {v:Value} {loops:Int} {C:List Cr} (h:OutAt w B g v loops C) (hg:w.grownBy w' (some q)) (hq:q≠g) (hB:q<B):OutAt w' B g v loops C:=by
 refine⟨(hg.block _ (Array.getElem?_eq_some_iff.1 h.box).1 (fun e=>hq (Option.some.inj e).symm)).trans h.box,h.row.kept hg ?_⟩
 cases hv:v.ownBlock with
 |none=>exact Or.inl rfl
 |some k=>exact Or.inr (fun e=>by have h1:=(h.row.lt k hv).1;have h2:=Option.some.inj e;omega)
theorem OutAt.below {w w8 W:World} {B B0 g:Nat} {v v8:Value} {loops:Int} {C:List Cr} {o:Obj} (h:OutAt w B g v loops C) (hb:Below B0 W w) (hB:B0<=B) (hs:B0<=w.heap.size) (h0:B0<=g) (hg8:(w.alloc o).grownBy w8 v.ownBlock):Below B0 W (w8.setCell ⟨g,0,none⟩ v8):=
 ((hb.alloc hs _).grown hg8 (by simp;omega) (fun q hq=>Nat.le_trans hB (h.row.lt q hq).1)).grown (set_grown w8 g 0 v8) (by have:=hg8.size;simp at this;omega) (fun q hq=>by have:=Option.some.inj hq;omega)
theorem OutAt.other {w w8:World} {B g k:Nat} {v v8:Value} {loops:Int} {C:List Cr} {o p:Obj} (h:OutAt w B g v loops C) (hk:w.heap[k]?=some p) (hkB:k<B) (hkg:k≠g) (hg8:(w.alloc o).grownBy w8 v.ownBlock):(w8.setCell ⟨g,0,none⟩ v8).heap[k]?=some p:=by
 have hlt:=(Array.getElem?_eq_some_iff.1 hk).1
 have hs:=hg8.size
 simp only[World.size_alloc]at hs
 have hb8:w8.heap[k]?=some p:=(hg8.block _ (by simp;omega) (fun e=>by have:=(h.row.lt k e.symm).1;omega)).trans (alloc_old hk)
 exact((set_grown w8 g 0 v8).block k (by omega) (fun e=>hkg (Option.some.inj e))).trans hb8
def turn (x:Cr) (f:Nat):Cr:=⟨x.arc (f%4),x.arc ((f+1)%4),x.arc ((f+2)%4),x.arc ((f+3)%4),x.plus⟩
theorem crossOf_any (x : Cr) (w : World) :
    Calls Try.prog 60 #[.agg #[.int .i64 x.a,.int .i64 x.b,.int .i64 x.c,.int .i64 x.d],.bool x.plus] w fun e w'=>e=.returned (.agg #[.int .i64 x.a,.int .i64 x.b,.int .i64 x.c,.int .i64 x.d,.bool x.plus])/\Below w.heap.size w w':=by
 go_enter Try.func60,Try.ntmps60
 go_wp2
 exact bodyPost_ret (v:=.agg #[.int .i64 x.a,.int .i64 x.b,.int .i64 x.c,.int .i64 x.d,.bool x.plus]) (by simp[results,Try.results60,go_sem]) rfl ⟨rfl,below2 _ _ _⟩
def intArr (l:List Int):Array Value:=(l.map fun x=>Value.int .i64 x).toArray
theorem intArr_set (l:List Int) (p:Nat) (z:Int):(intArr l).setIfInBounds p (.int .i64 z)=intArr (l.set p z):=by
 simp[intArr,List.map_set]
theorem intArr_get (l:List Int) (p:Nat) (h:p<l.length):(intArr l)[p]?=some (.int .i64 (l.getD p 0)):=by
 simp[intArr,List.getD,h]
def arrTo (x:Cr) (f k:Nat):List Int:=(List.range 4).map fun j=>if(j+f)%4<k then x.arc ((j+f)%4) else 0
theorem arrTo_len (x:Cr) (f k:Nat):(arrTo x f k).length=4:=by simp[arrTo]
theorem arrTo_next (x:Cr) (f k p:Nat) (hp:p<4) (h:(p+f)%4=k):(arrTo x f k).set p (x.arc k)=arrTo x f (k+1):=by
 apply List.ext_getElem?
 intro i
 rw[List.getElem?_set]
 by_cases hi:i<4
 · by_cases e:p=i
   · subst e
     simp[arrTo,hi,h]
   · rw[if_neg e]
     have hne:(i+f)%4≠k:=by omega
     simp only[arrTo,List.getElem?_map,List.getElem?_range hi,Option.map_some]
     congr 1
     by_cases h2:(i+f)%4<k
     · rw[if_pos h2,if_pos (by omega)]
     · rw[if_neg h2,if_neg (by omega)]
 · rw[List.getElem?_eq_none (by rw[arrTo_len];omega),List.getElem?_eq_none (by rw[arrTo_len];omega)]
   split
   · next e=>rw[if_neg (by rw[arrTo_len];omega)]
   · rfl
theorem arrTo_zero (x:Cr) (f:Nat):arrTo x f 0=[0,0,0,0]:=by simp[arrTo,List.range_succ]
theorem arrTo_four (x:Cr) (f:Nat):intArr (arrTo x f 4)=#[.int .i64 (turn x f).a,.int .i64 (turn x f).b,.int .i64 (turn x f).c,.int .i64 (turn x f).d]:=by
 have h0:f%4<4:=Nat.mod_lt _ (by omega)
 simp[arrTo,intArr,turn,List.range_succ,h0,Nat.add_comm]
 exact⟨fun h=>by omega,fun h=>by omega,fun h=>by omega⟩
theorem turned_any (x : Cr) (f : Nat) (w : World) (hf : f < 4) :
    Calls Try.prog 47 #[.agg #[.int .i64 x.a,.int .i64 x.b,.int .i64 x.c,.int .i64 x.d,.bool x.plus],.int .i64 (f:Nat)] w fun e w'=>e=.returned (.agg #[.int .i64 (turn x f).a,.int .i64 (turn x f).b,.int .i64 (turn x f).c,.int .i64 (turn x f).d,.bool x.plus])/\Below w.heap.size w w':=by
 obtain⟨w0,hw0⟩:∃ w0,w0=((w.alloc (.cells #[.int .i64 x.a,.int .i64 x.b,.int .i64 x.c,.int .i64 x.d,.bool x.plus] 78)).alloc (.cells #[.int .i64 0,.int .i64 0,.int .i64 0,.int .i64 0,.bool false] 78)).alloc (.cells #[.int .i64 0,.int .i64 0,.int .i64 0,.int .i64 0] 74):=⟨_,rfl⟩
 have HW0:Hid (w0=((w.alloc (.cells #[.int .i64 x.a,.int .i64 x.b,.int .i64 x.c,.int .i64 x.d,.bool x.plus] 78)).alloc (.cells #[.int .i64 0,.int .i64 0,.int .i64 0,.int .i64 0,.bool false] 78)).alloc (.cells #[.int .i64 0,.int .i64 0,.int .i64 0,.int .i64 0] 74)):=hw0
 have hs0:w0.heap.size=w.heap.size+3:=by rw[hw0];simp
 have HB0:Hid (Below w.heap.size w w0):=(by rw[hw0];exact below3 _ _ _ _:Below w.heap.size w w0)
 have HT0:Hid (w0.heap[w.heap.size]?=some (.cells #[.int .i64 x.a,.int .i64 x.b,.int .i64 x.c,.int .i64 x.d,.bool x.plus] 78 (0,0))):=(by rw[hw0];exact alloc_old (alloc_old (alloc_at rfl)):w0.heap[w.heap.size]?=some (.cells #[.int .i64 x.a,.int .i64 x.b,.int .i64 x.c,.int .i64 x.d,.bool x.plus] 78 (0,0)))
 have HT1:Hid (w0.heap[w.heap.size+1]?=some (.cells #[.int .i64 0,.int .i64 0,.int .i64 0,.int .i64 0,.bool false] 78 (0,0))):=(by rw[hw0];exact alloc_old (alloc_at (by simp)):w0.heap[w.heap.size+1]?=some (.cells #[.int .i64 0,.int .i64 0,.int .i64 0,.int .i64 0,.bool false] 78 (0,0)))
 have HT2:Hid (w0.heap[w.heap.size+1+1]?=some (.cells (intArr (arrTo x f 0)) 74 (0,0))):=(by rw[hw0,arrTo_zero];exact alloc_at (by simp):w0.heap[w.heap.size+1+1]?=some (.cells (intArr (arrTo x f 0)) 74 (0,0)))
 clear hw0
 go_enter Try.func47,Try.ntmps47
 go_wp2_with (go_at_call 31;rw[<-HW0.out];refine(arcs_any x _).mono ?_;rintro e9 w1 ⟨rfl,hb1⟩;refine Hid.out ?_)
 refine Lib.hid ?_
 have HB1:Hid (Below w0.heap.size w0 w1):=hb1
 have hs1:=hb1.size
 have HA1:Hid (w1.heap[w.heap.size+1+1]?=some (.cells (intArr (arrTo x f 0)) 74 (0,0))):=(hb1.block _ (by omega)).trans HT2.out
 have HC1:Hid (w1.heap[w.heap.size]?=some (.cells #[.int .i64 x.a,.int .i64 x.b,.int .i64 x.c,.int .i64 x.d,.bool x.plus] 78 (0,0))):=(hb1.block _ (by omega)).trans HT0.out
 have HR1:Hid (w1.heap[w.heap.size+1]?=some (.cells #[.int .i64 0,.int .i64 0,.int .i64 0,.int .i64 0,.bool false] 78 (0,0))):=(hb1.block _ (by omega)).trans HT1.out
 clear hb1
 go_wp2
 go_loopw [10] (fun v10 wr=>∃ k:Nat,k<=4/\v10=.int .i64 (k:Nat)/\Hid (wr.heap[w.heap.size+1+1]?=some (.cells (intArr (arrTo x f k)) 74 (0,0)))/\w1.grownBy wr (some (w.heap.size+1+1))) (fun v10 _=>4-(intOf v10).toNat)
 case atStart=>exact⟨0,Nat.zero_le _,rfl,HA1.out,World.grownBy.refl _ _⟩
 case round=>
  rename World=>W1
  obtain⟨k,hk,rfl,hA,hg⟩:=hrel
  have hsz:=hg.size
  by_cases hkl:k<4
  · have hix:=index_arr x k hkl
    obtain⟨p,hp⟩:∃ p:Nat,p=(k+4 - f)%4:=⟨_,rfl⟩
    have hp4:p<4:=by omega
    have HPK:Hid ((p+f)%4=k):=(by omega:(p+f)%4=k)
    have q1:IntKind.i64.wrap ((k:Int)+4)=(k:Int)+4:=IntWalk.i64_in _ (by omega)
    have q2:IntKind.i64.wrap ((k:Int)+4-(f:Int))=(k:Int)+4-(f:Int):=IntWalk.i64_in _ (by omega)
    have q3:((k:Int)+4-(f:Int)).tmod 4=(p:Int):=by rw[Int.tmod_eq_emod_of_nonneg (by omega)];omega
    clear hp
    have hl:p<(arrTo x f k).length:=by rw[arrTo_len];exact hp4
    have e0:W1.cell? ⟨w.heap.size+1+1,p,none⟩=some (.int .i64 ((arrTo x f k).getD p 0)):=block_cell hA.out (intArr_get _ p hl)
    have z0:W1.frozen? ⟨w.heap.size+1+1,p,none⟩=false:=block_frozen hA.out
    have hlt:w.heap.size+1+1<W1.heap.size:=by omega
    have HNX : Hid ((W1.setCell ⟨w.heap.size + 1 + 1, p, none⟩ (.int .i64 (x.arc k))).heap[w.heap.size + 1 + 1]? = some (.cells (intArr (arrTo x f (k + 1))) 74 (0, 0))) := (by
     rw[<-arrTo_next x f k p hp4 HPK.out,<-intArr_set]
     exact set_block hA.out:(W1.setCell ⟨w.heap.size+1+1,p,none⟩ (.int .i64 (x.arc k))).heap[w.heap.size+1+1]?=some (.cells (intArr (arrTo x f (k+1))) 74 (0,0)))
    generalize (arrTo x f k).getD p 0=u at e0
    clear hl
    go_wp2
    go_roundw
    case rel=>exact⟨k+1,by omega,by go_num,HNX.out,grown_trans hg (set_grown _ _ _ _)⟩
    case measure=>simp only[intOf];omega
  · obtain rfl:k=4:=by omega
    have hA4:=hA.out
    rw[arrTo_four]at hA4
    have hC:=(hg.block _ (by omega) (fun e=>by have:=Option.some.inj e;omega)).trans HC1.out
    have hR:=(hg.block _ (by omega) (fun e=>by have:=Option.some.inj e;omega)).trans HR1.out
    have HR:Hid (W1.heap[w.heap.size+1]?=some (.cells #[.int .i64 0,.int .i64 0,.int .i64 0,.int .i64 0,.bool false] 78 (0,0))):=hR
    have a0:W1.cell? ⟨w.heap.size+1+1,0,none⟩=some (.int .i64 (turn x f).a):=block_cell hA4 rfl
    have a1:W1.cell? ⟨w.heap.size+1+1,1,none⟩=some (.int .i64 (turn x f).b):=block_cell hA4 rfl
    have a2:W1.cell? ⟨w.heap.size+1+1,2,none⟩=some (.int .i64 (turn x f).c):=block_cell hA4 rfl
    have a3:W1.cell? ⟨w.heap.size+1+1,3,none⟩=some (.int .i64 (turn x f).d):=block_cell hA4 rfl
    have a4:W1.cell? ⟨w.heap.size,4,none⟩=some (.bool x.plus):=block_cell hC rfl
    have hlt:w.heap.size+1+1<W1.heap.size:=by omega
    have HG:Hid (w1.grownBy W1 (some (w.heap.size+1+1))):=hg
    have hpl:(turn x f).plus=x.plus:=rfl
    clear hA4 hC hR hA hg
    go_wp2_with (go_at_call 60;refine(crossOf_any (turn x f) _).mono ?_;rintro e9 w4 ⟨rfl,hb4⟩;refine Hid.out ?_)
    refine Lib.hid ?_
    have HR4:Hid (w4.heap[w.heap.size+1]?=some (.cells #[.int .i64 0,.int .i64 0,.int .i64 0,.int .i64 0,.bool false] 78 (0,0))):=(hb4.block _ (by omega)).trans HR.out
    have HB4:Hid (Below w.heap.size w w4):=((HB0.out.trans (HB1.out.mono (by omega))).grown HG.out (by omega) (fun q hq=>by have:=Option.some.inj hq;omega)).trans (hb4.mono (by omega))
    have hs4:=hb4.size
    clear hb4 a0 a1 a2 a3 a4
    have r0:w4.cell? ⟨w.heap.size+1,0,none⟩=some (.int .i64 0):=block_cell HR4.out rfl
    have r1:w4.cell? ⟨w.heap.size+1,1,none⟩=some (.int .i64 0):=block_cell HR4.out rfl
    have r2:w4.cell? ⟨w.heap.size+1,2,none⟩=some (.int .i64 0):=block_cell HR4.out rfl
    have r3:w4.cell? ⟨w.heap.size+1,3,none⟩=some (.int .i64 0):=block_cell HR4.out rfl
    have r4:w4.cell? ⟨w.heap.size+1,4,none⟩=some (.bool false):=block_cell HR4.out rfl
    have f0:w4.frozen? ⟨w.heap.size+1,0,none⟩=false:=block_frozen HR4.out
    have f1:w4.frozen? ⟨w.heap.size+1,1,none⟩=false:=block_frozen HR4.out
    have f2:w4.frozen? ⟨w.heap.size+1,2,none⟩=false:=block_frozen HR4.out
    have f3:w4.frozen? ⟨w.heap.size+1,3,none⟩=false:=block_frozen HR4.out
    have f4:w4.frozen? ⟨w.heap.size+1,4,none⟩=false:=block_frozen HR4.out
    go_wp2
    have hX:=set_block (i:=4) (u:=.bool x.plus) (set_block (i:=3) (u:=.int .i64 (turn x f).d) (set_block (i:=2) (u:=.int .i64 (turn x f).c) (set_block (i:=1) (u:=.int .i64 (turn x f).b) (set_block (i:=0) (u:=.int .i64 (turn x f).a) HR4.out))))
    have x0:=block_cell (i:=0) (v:=.int .i64 (turn x f).a) hX rfl
    have x1:=block_cell (i:=1) (v:=.int .i64 (turn x f).b) hX rfl
    have x2:=block_cell (i:=2) (v:=.int .i64 (turn x f).c) hX rfl
    have x3:=block_cell (i:=3) (v:=.int .i64 (turn x f).d) hX rfl
    have x4:=block_cell (i:=4) (v:=.bool x.plus) hX rfl
    refine bodyPost_ret (v:=.agg #[.int .i64 (turn x f).a,.int .i64 (turn x f).b,.int .i64 (turn x f).c,.int .i64 (turn x f).d,.bool x.plus]) (by simp[results,Try.results47,go_sem,x0,x1,x2,x3,x4]) rfl ⟨rfl,?_⟩
    have hst:∀ (W:World) (u:Value) (i:Nat),Below w.heap.size w W->Below w.heap.size w (W.setCell ⟨w.heap.size+1,i,none⟩ u):=fun W u i h=>h.grown (set_grown W (w.heap.size+1) i u) h.size (fun q hq=>by have:=Option.some.inj hq;omega)
    exact hst _ _ _ (hst _ _ _ (hst _ _ _ (hst _ _ _ (hst _ _ _ HB4.out))))
end Go.Proofs.Ytgagenmkpmmpfaa
/- Sums: the walks of Drawing.Has and of the closure that numbers arcs anew, and of drawing.Renumbered with it. -/
namespace Go.Proofs.Ytgagenmkpmmpfaa
open Go.RowKit
def Boxes (w:World) (x:Cr) (more cut other:Int) (pc px po pm:Nat):Prop:=(pc<w.heap.size/\px<w.heap.size/\po<w.heap.size/\pm<w.heap.size)/\w.cell? ⟨pc,0,none⟩=some (.int .i64 cut)/\w.cell? ⟨px,0,none⟩=some (.int .i64 x.a)/\w.cell? ⟨px,1,none⟩=some (.int .i64 x.b)/\w.cell? ⟨px,2,none⟩=some (.int .i64 x.c)/\w.cell? ⟨px,3,none⟩=some (.int .i64 x.d)/\w.cell? ⟨px,4,none⟩=some (.bool x.plus)/\w.cell? ⟨po,0,none⟩=some (.int .i64 other)/\w.cell? ⟨pm,0,none⟩=some (.int .i64 more)
theorem Boxes.kept {B:Nat} {w w':World} {x:Cr} {more cut other:Int} {pc px po pm:Nat} (h:Boxes w x more cut other pc px po pm) (hb:Below B w w') (l1:pc<B) (l2:px<B) (l3:po<B) (l4:pm<B):Boxes w' x more cut other pc px po pm:=by
 obtain⟨⟨a1,a2,a3,a4⟩,c0,c1,c2,c3,c4,c5,c6,c7⟩:=h
 have hs:=hb.size
 exact⟨⟨by omega,by omega,by omega,by omega⟩,bcell hb l1 c0,bcell hb l2 c1,bcell hb l2 c2,bcell hb l2 c3,bcell hb l2 c4,bcell hb l2 c5,bcell hb l3 c6,bcell hb l4 c7⟩
end Go.Proofs.Ytgagenmkpmmpfaa
/- Lists of fractions: the walks of slices.Reverse (of numbers) and tangle.expanded. -/
namespace Go.Proofs.Ytgagenmkpmmpfaa
open Go.RowKit
set_option maxHeartbeats 8000000
set_option maxRecDepth 100000
theorem list_mapI (l:List Int):l=mapI l.length (fun i=>l.getD i 0):=by
 apply List.ext_getElem?
 intro j
 by_cases hj:j<l.length
 · rw[mapI_get _ _ j hj,List.getElem?_eq_getElem hj,List.getD_eq_getElem?_getD,List.getElem?_eq_getElem hj]
   rfl
 · rw[List.getElem?_eq_none (by omega),List.getElem?_eq_none (by rw[mapI_len];omega)]
theorem intsV_getG (l:List Int) (i:Nat) (h:i<l.length):(intsV l)[i]?=some (.int .i64 (l.getD i 0)):=by simp[intsV,List.getD,h]
def rvF (l:List Int) (k i:Nat):Int:=if i<k∨l.length<=i+k then l.getD (l.length-1-i) 0 else l.getD i 0
theorem rvF_zero (l:List Int):mapI l.length (rvF l 0)=l:=by
 conv=>rhs;rw[list_mapI l]
 exact mapI_congr _ _ _ fun j hj=>by unfold rvF;rw[if_neg (by omega)]
theorem rvF_next (l:List Int) (k:Nat) (h:2*k+1<l.length):((mapI l.length (rvF l k)).set k (l.getD (l.length-1-k) 0)).set (l.length-1-k) (l.getD k 0)=mapI l.length (rvF l (k+1)):=by
 rw[mapI_set _ _ (fun j=>if j=k then l.getD (l.length-1-k) 0 else rvF l k j) k _ (fun j _=>rfl)]
 refine mapI_set _ _ _ _ _ fun j hj=>?_
 unfold rvF
 by_cases e1:j=l.length-1-k
 · rw[if_pos e1,if_pos (by omega)]
   congr 1
   omega
 · rw[if_neg e1]
   by_cases e2:j=k
   · rw[if_pos e2,if_pos (by omega),e2]
   · rw[if_neg e2]
     by_cases e3:j<k∨l.length<=j+k
     · rw[if_pos e3,if_pos (by omega)]
     · rw[if_neg e3,if_neg (by omega)]
theorem rvF_all (l:List Int) (k:Nat) (h:l.length<=2*k+1):mapI l.length (rvF l k)=l.reverse:=by
 apply List.ext_getElem?
 intro j
 by_cases hj:j<l.length
 · rw[mapI_get _ _ j hj,List.getElem?_reverse hj,List.getElem?_eq_getElem (by omega)]
   unfold rvF
   by_cases e:j<k∨l.length<=j+k
   · rw[if_pos e,List.getD_eq_getElem?_getD,List.getElem?_eq_getElem (by omega)]
     rfl
   · rw[if_neg e]
     have:j=l.length-1-j:=by omega
     rw[List.getD_eq_getElem?_getD,List.getElem?_eq_getElem hj,Option.getD_some]
     congr 2
 · rw[List.getElem?_eq_none (by rw[mapI_len];omega),List.getElem?_eq_none (by simp;omega)]
theorem reverse_any (B g cap : Nat) (l : List Int) (w : World) (hl : l.length ≤ 100000) (h1 : 1 ≤ l.length) (h : w.ownsRow B 3 1 (.slice (some ⟨g, 0, none⟩) l.length cap) l.length (intsV l)) :
    Calls Try.prog 43 #[.slice (some ⟨g,0,none⟩) l.length cap] w fun e w'=>e=.returned (.tuple #[])/\w'.ownsRow B 3 1 (.slice (some ⟨g,0,none⟩) l.length cap) l.length (intsV l.reverse)/\w.grownBy w' (some g):=by
 have HP0:Hid (w.ownsRow B 3 1 (.slice (some ⟨g,0,none⟩) l.length cap) l.length (intsV (mapI l.length (rvF l 0)))/\w.grownBy w (some g)):=⟨by rw[rvF_zero];exact h,World.grownBy.refl _ _⟩
 obtain⟨n,hN⟩:∃ n,l.length=n:=⟨_,rfl⟩
 have HN:Hid (l.length=n):=hN
 have HNX:Hid (∀ k,2*k+1<n->((mapI n (rvF l k)).set k (l.getD (n-1-k) 0)).set (n-1-k) (l.getD k 0)=mapI n (rvF l (k+1))):=fun k hk=>by
  have:=rvF_next l k (by omega)
  rw[hN]at this
  exact this
 have HAL:Hid (∀ k,n<=2*k+1->mapI n (rvF l k)=l.reverse):=fun k hk=>by
  have:=rvF_all l k (by omega)
  rw[hN]at this
  exact this
 have HVA:Hid (∀ k i,2*k+1<n->k<=i->i+k<n->rvF l k i=l.getD i 0):=fun k i h1 h2 h3=>by
  unfold rvF
  rw[if_neg (by omega)]
 rw[hN]at hl h1 HP0 ⊢
 clear h hN
 have ew0:IntKind.i64.wrap ((n:Int)-1)=(n:Int)-1:=IntWalk.i64_in _ (by omega)
 go_enter Try.func43,Try.ntmps43
 go_wp2
 go_loopw [2,3] (fun v2 v3 wr=>∃ k:Nat,k<=n/\v2=.int .i64 (k:Nat)/\v3=.int .i64 ((n:Int)-1-(k:Int))/\Hid (wr.ownsRow B 3 1 (.slice (some ⟨g,0,none⟩) n cap) n (intsV (mapI n (rvF l k)))/\w.grownBy wr (some g))) (fun v2 _ _=>n-(intOf v2).toNat)
 case atStart=>exact⟨0,Nat.zero_le _,rfl,by congr 1;omega,HP0.out⟩
 case round=>
  clear HP0 ew0
  rename World=>W1
  obtain⟨k,hkn,rfl,rfl,hp⟩:=hrel
  by_cases hk:2*k+1<n
  · obtain⟨j,hj⟩:∃ j:Nat,n - 1 - k=j:=⟨_,rfl⟩
    have HJ:Hid (n-1-k=j):=hj
    have hjI:(n:Int)-1-(k:Int)=(j:Int):=by omega
    rw[hjI]
    have hkj:k<j:=by omega
    have hjn:j<n:=by omega
    have e0:W1.cell? ⟨g,k,none⟩=some (.int .i64 (l.getD k 0)):=by
     rw[hp.out.1.cellAt k (by omega),intsV_getG _ k (by rw[mapI_len];omega),mapI_at _ _ k (by omega),HVA.out k k hk (Nat.le_refl _) (by omega)]
    have e1:W1.cell? ⟨g,j,none⟩=some (.int .i64 (l.getD j 0)):=by
     rw[hp.out.1.cellAt j (by omega),intsV_getG _ j (by rw[mapI_len];omega),mapI_at _ _ j (by omega),HVA.out k j hk (by omega) (by omega)]
    have f0:W1.frozen? ⟨g,k,none⟩=false:=hp.out.1.frozenAt k
    have f1:W1.frozen? ⟨g,j,none⟩=false:=hp.out.1.frozenAt j
    have hst:=hp.out.1.stored k (.int .i64 (l.getD j 0))
    have hst2:=hst.1.stored j (.int .i64 (l.getD k 0))
    have hnx:=HNX.out k hk
    rw[hj]at hnx
    rw[intsV_set,intsV_set,hnx]at hst2
    obtain⟨x,hx⟩:∃ x,l.getD k 0=x:=⟨_,rfl⟩
    obtain⟨y,hy⟩:∃ y,l.getD j 0=y:=⟨_,rfl⟩
    rw[hx]at e0 hst2
    rw[hy]at e1 hst hst2
    have HST:Hid (((W1.setCell ⟨g,k,none⟩ (.int .i64 y)).setCell ⟨g,j,none⟩ (.int .i64 x)).ownsRow B 3 1 (.slice (some ⟨g,0,none⟩) n cap) n (intsV (mapI n (rvF l (k+1))))/\w.grownBy ((W1.setCell ⟨g,k,none⟩ (.int .i64 y)).setCell ⟨g,j,none⟩ (.int .i64 x)) (some g)):=⟨hst2.1,grown_trans hp.out.2 (grown_trans hst.2 hst2.2)⟩
    have hgw:=(hp.out.1.lt g rfl).2
    have hkI:(k:Int)<(n:Int):=by omega
    have hjI2:(j:Int)<(n:Int):=by omega
    have hkjn:k≠j:=by omega
    have ew1:IntKind.i64.wrap ((j:Int)-1)=(j:Int)-1:=IntWalk.i64_in _ (by omega)
    clear hst hst2 hnx hx hy hj hjI
    go_wp2
    apply cut_one
    case h=>
     intro key
     go_region_with (fail)
     all_goals exact key.out
    obtain⟨X,hX⟩:∃ X,X=((W1.setCell ⟨g,k,none⟩ (.int .i64 y)).setCell ⟨g,j,none⟩ (.int .i64 x)).drew:=⟨_,rfl⟩
    have HX : Hid (X.ownsRow B 3 1 (.slice (some ⟨g, 0, none⟩) n cap) n (intsV (mapI n (rvF l (k + 1)))) ∧ w.grownBy X (some g)) := (by
     rw[hX]
     exact⟨own_any HST.out.1 (grown_below ((Below.refl _ _).drew) none),grown_trans HST.out.2 (grown_below ((Below.refl _ _).drew) _)⟩:X.ownsRow B 3 1 (.slice (some ⟨g,0,none⟩) n cap) n (intsV (mapI n (rvF l (k+1))))/\w.grownBy X (some g))
    rw[<-hX]
    clear hX HST e0 e1 f0 f1
    go_wp2
    go_roundw
    case rel=>exact⟨k+1,by omega,by go_num,by congr 1;have:=HJ.out;omega,HX.out⟩
    case measure=>simp only[intOf];omega
  · have HA:Hid (mapI n (rvF l k)=l.reverse):=HAL.out k (by omega)
    rw[HA.out]at hp
    have hd:decide ((k:Int)<(n:Int)-1-(k:Int))=false:=by simp;omega
    go_wp2
    exact bodyPost_end (v:=.tuple #[]) (results_none rfl _ _ _) rfl ⟨rfl,hp.out⟩
end Go.Proofs.Ytgagenmkpmmpfaa
/- A crossing is stored whole into a row. -/
namespace Go.Proofs.Ytgagenmkpmmpfaa
open Go.RowKit
theorem cells_setR (C:List Cr) (i:Nat) (hi:i<C.length) (r:Nat) (hr:r<5) (v:Value) (x:Cr) (hx:(crossCells [C.getD i Cr.none]).set r v=crossCells [x]):(crossCells C).set (i*5+r) v=crossCells (C.set i x):=by
 induction C generalizing i with
 |nil=>simp at hi
 |cons t l ih=>
  have e:∀ y:Cr,∀ m:List Cr,crossCells (y::m)=crossCells [y]++crossCells m:=fun y m=>by simp[crossCells]
  have el:(crossCells [t]).length=5:=by simp[crossCells]
  cases i with
  |zero=>
   rw[List.set_cons_zero,e t l,e x l,Nat.zero_mul,Nat.zero_add,List.set_append_left _ _ (by rw[el];exact hr)]
   rw[show(t::l).getD 0 Cr.none=t from rfl]at hx
   rw[hx]
  |succ i=>
   rw[List.set_cons_succ,e t l,e t (l.set i x),List.set_append_right _ _ (by rw[el];omega),el,show(i+1)*5+r-5=i*5+r by omega]
   rw[ih i (by simpa using hi) (by simpa using hx)]
theorem crs_set_atR (Cs:List Cr) (c:Nat) (y:Cr) (hc:c<Cs.length):(Cs.set c y).getD c Cr.none=y:=by
 rw[List.getD_eq_getElem?_getD,List.getElem?_set_self hc,Option.getD_some]
theorem put5R {w : World} {B n g cap c : Nat} {Cs : List Cr} (h : w.ownsRow B 78 5 (.slice (some ⟨g, 0, none⟩) n cap) n (crossCells Cs)) (hc : c < Cs.length) (y : Cr) :
    (((((w.setCell ⟨g,c*5,none⟩ (.int .i64 y.a)).setCell ⟨g,c*5+1,none⟩ (.int .i64 y.b)).setCell ⟨g,c*5+2,none⟩ (.int .i64 y.c)).setCell ⟨g,c*5+3,none⟩ (.int .i64 y.d)).setCell ⟨g,c*5+4,none⟩ (.bool y.plus)).ownsRow B 78 5 (.slice (some ⟨g,0,none⟩) n cap) n (crossCells (Cs.set c y))/\
    w.grownBy (((((w.setCell ⟨g,c*5,none⟩ (.int .i64 y.a)).setCell ⟨g,c*5+1,none⟩ (.int .i64 y.b)).setCell ⟨g,c*5+2,none⟩ (.int .i64 y.c)).setCell ⟨g,c*5+3,none⟩ (.int .i64 y.d)).setCell ⟨g,c*5+4,none⟩ (.bool y.plus)) (some g):=by
 obtain⟨x,hx⟩:∃ x,Cs.getD c Cr.none=x:=⟨_,rfl⟩
 have h0:=h.stored (c*5) (.int .i64 y.a)
 have e0:=cells_setR Cs c hc 0 (by omega) (.int .i64 y.a) ⟨y.a,x.b,x.c,x.d,x.plus⟩ (by rw[hx];rfl)
 rw[Nat.add_zero]at e0
 rw[e0]at h0
 have h1:=h0.1.stored (c*5+1) (.int .i64 y.b)
 rw[cells_setR _ c (by simpa using hc) 1 (by omega) (.int .i64 y.b) ⟨y.a,y.b,x.c,x.d,x.plus⟩ (by rw[crs_set_atR _ _ _ hc];rfl),List.set_set]at h1
 have h2:=h1.1.stored (c*5+2) (.int .i64 y.c)
 rw[cells_setR _ c (by simpa using hc) 2 (by omega) (.int .i64 y.c) ⟨y.a,y.b,y.c,x.d,x.plus⟩ (by rw[crs_set_atR _ _ _ hc];rfl),List.set_set]at h2
 have h3:=h2.1.stored (c*5+3) (.int .i64 y.d)
 rw[cells_setR _ c (by simpa using hc) 3 (by omega) (.int .i64 y.d) ⟨y.a,y.b,y.c,y.d,x.plus⟩ (by rw[crs_set_atR _ _ _ hc];rfl),List.set_set]at h3
 have h4:=h3.1.stored (c*5+4) (.bool y.plus)
 rw[cells_setR _ c (by simpa using hc) 4 (by omega) (.bool y.plus) y (by rw[crs_set_atR _ _ _ hc];rfl),List.set_set]at h4
 exact⟨h4.1,grown_trans (grown_trans (grown_trans (grown_trans h0.2 h1.2) h2.2) h3.2) h4.2⟩
def st5R (w:World) (g c:Nat) (y:Cr):World:=((((w.setCell ⟨g,c*5,none⟩ (.int .i64 y.a)).setCell ⟨g,c*5+1,none⟩ (.int .i64 y.b)).setCell ⟨g,c*5+2,none⟩ (.int .i64 y.c)).setCell ⟨g,c*5+3,none⟩ (.int .i64 y.d)).setCell ⟨g,c*5+4,none⟩ (.bool y.plus)
end Go.Proofs.Ytgagenmkpmmpfaa
/- Fractions of lists: their mathematics; the walks of tangle.fractionOf, tangle.Fraction and ref.FractionOf. -/
namespace Go.Proofs.Ytgagenmkpmmpfaa
open Go.RowKit
set_option maxHeartbeats 4000000
set_option maxRecDepth 100000
def frTo (l:List Int):Nat->Int×Int
 |0=>(1,0)
 |k+1=>(l.getD k 0*(frTo l k).1+(frTo l k).2,(frTo l k).1)
theorem frTo_le (l:List Int) (k:Nat):(frTo l k).1.natAbs+(frTo l k).2.natAbs<=2 ^ szTo l k:=by
 induction k with
 |zero=>simp[frTo,szTo]
 |succ k ih=>
  simp only[frTo,szTo]
  obtain⟨p,hp⟩:∃ p,(frTo l k).1=p:=⟨_,rfl⟩
  obtain⟨q,hq⟩:∃ q,(frTo l k).2=q:=⟨_,rfl⟩
  obtain⟨n,hn⟩:∃ n,l.getD k 0=n:=⟨_,rfl⟩
  rw[hp,hq]at ih ⊢
  rw[hn]
  have h1:(n*p+q).natAbs<=n.natAbs*p.natAbs+q.natAbs:=by
   have:=Int.natAbs_add_le (n*p) q
   rw[Int.natAbs_mul]at this
   exact this
  have h2:n.natAbs+1<=2 ^ n.natAbs:=Nat.lt_two_pow_self
  have h3:(p.natAbs+q.natAbs)*(n.natAbs+1)<=2 ^ szTo l k*2 ^ n.natAbs:=Nat.mul_le_mul ih h2
  rw[Nat.pow_add]
  refine Nat.le_trans ?_ h3
  have h4:(p.natAbs+q.natAbs)*(n.natAbs+1)=n.natAbs*p.natAbs+q.natAbs*n.natAbs+p.natAbs+q.natAbs:=by
   rw[Nat.mul_add,Nat.add_mul,Nat.mul_one,Nat.mul_comm p.natAbs]
   omega
  rw[h4]
  have h5:0<=q.natAbs*n.natAbs:=Nat.zero_le _
  omega
theorem szTo_mono (l:List Int) (i j:Nat) (h:i<=j):szTo l i<=szTo l j:=by
 induction j with
 |zero=>rw[Nat.le_zero.1 h];exact Nat.le_refl _
 |succ j ih=>
  by_cases e:i=j+1
  · rw[e];exact Nat.le_refl _
  · have:=ih (by omega)
    simp only[szTo]
    omega
theorem frTo_small {l:List Int} (h:szTo l l.length<=16) (k:Nat) (hk:k<=l.length) : -65536<=(frTo l k).1/\(frTo l k).1<=65536 /\ -65536<=(frTo l k).2/\(frTo l k).2<=65536:=by
 have h1:=frTo_le l k
 have h2:2 ^ szTo l k<=2 ^ 16:=Nat.pow_le_pow_right (by omega) (Nat.le_trans (szTo_mono l k _ hk) h)
 have h3:(2:Nat) ^ 16=65536:=by decide
 omega
def frM (l:List Int):Int×Int:=if(frTo l l.length).2<0∨((frTo l l.length).2=0/\(frTo l l.length).1<0) then(-(frTo l l.length).1,-(frTo l l.length).2) else frTo l l.length
theorem ret_two {a b c d:Int} (h:a=c) (h2:b=d):Ending.returned (.tuple #[.int .i64 a,.int .i64 b])=.returned (.tuple #[.int .i64 c,.int .i64 d]):=by rw[h,h2]
theorem tgFractionOf_any (a : Option Addr) (cap : Nat) (l : List Int) (w : World) (hl : l.length ≤ 140737488355328) (hz : szTo l l.length ≤ 16) (hr : ∀ j, j < l.length → -16 ≤ l.getD j 0 ∧ l.getD j 0 ≤ 16) (h : RdAt w w.heap.size 1 (.slice a l.length cap) l.length (intsV l)) :
    Calls Try.prog 13 #[.slice a l.length cap] w fun e w'=>e=.returned (.tuple #[.int .i64 (frM l).1,.int .i64 (frM l).2])/\Below w.heap.size w w':=by
 have HR:Hid (RdAt w w.heap.size 1 (.slice a l.length cap) l.length (intsV l)):=h
 have HB:Hid (Below w.heap.size w w):=Below.refl _ _
 have HSM:Hid (szTo l l.length<=16):=hz
 have HRG:Hid (∀ j,j<l.length -> -16<=l.getD j 0/\l.getD j 0<=16):=hr
 obtain⟨n,hN⟩:∃ n,l.length=n:=⟨_,rfl⟩
 have HN:Hid (l.length=n):=hN
 rw[hN]at hl ⊢
 clear h hN hz hr
 go_enter Try.func13,Try.ntmps13
 go_wp2
 go_loopw [2,3,8] (fun v2 v3 v8 wr=>∃ i:Nat,i<=n/\v8=.int .i64 (i:Nat)/\v2=.int .i64 (frTo l i).1/\v3=.int .i64 (frTo l i).2/\Hid (Below w.heap.size w wr)) (fun _ _ v8 _=>n-(intOf v8).toNat)
 case atStart=>exact⟨0,Nat.zero_le _,rfl,rfl,rfl,HB.out⟩
 case round=>
  clear HB
  rename World=>W1
  obtain⟨i,hin,rfl,rfl,rfl,hb⟩:=hrel
  obtain⟨b1,b2,b3,b4⟩:=frTo_small HSM.out i (by rw[HN.out];exact hin)
  by_cases hil:i<n
  · obtain⟨b,off,ea,hbw,hc⟩:=HR.out.intAt i (by rw[HN.out];exact hil)
    have e0:=bcell hb.out hbw hc
    have hsW:=hb.out.size
    have hbW:b<W1.heap.size:=by omega
    obtain⟨c1,c2,c3,c4⟩:=frTo_small HSM.out (i+1) (by rw[HN.out];exact hil)
    have HE1:Hid ((frTo l (i+1)).1=l.getD i 0*(frTo l i).1+(frTo l i).2):=(rfl:(frTo l (i+1)).1=l.getD i 0*(frTo l i).1+(frTo l i).2)
    have HE2:Hid ((frTo l (i+1)).2=(frTo l i).1):=(rfl:(frTo l (i+1)).2=(frTo l i).1)
    rw[HE1.out]at c1 c2
    obtain⟨x,hx⟩:∃ x,l.getD i 0=x:=⟨_,rfl⟩
    obtain⟨p,hp⟩:∃ p,(frTo l i).1=p:=⟨_,rfl⟩
    obtain⟨q,hq⟩:∃ q,(frTo l i).2=q:=⟨_,rfl⟩
    rw[hx]at e0 HE1 c1 c2
    rw[hp]at HE1 HE2 b1 b2 c1 c2 ⊢
    rw[hq]at HE1 b3 b4 c1 c2 ⊢
    obtain⟨m,hm⟩:∃ m,x*p=m:=⟨_,rfl⟩
    rw[hm]at HE1 c1 c2
    have ew1:IntKind.i64.wrap (x*p)=m:=by rw[hm];exact IntWalk.i64_in _ (by omega)
    have ew2:IntKind.i64.wrap (m+q)=m+q:=IntWalk.i64_in _ (by omega)
    subst ea
    clear hx hp hq hc c3 c4
    go_wp2
    go_roundw
    case rel=>exact⟨i+1,by omega,by go_num,by rw[HE1.out],by rw[HE2.out],hb.out⟩
    case measure=>simp only[intOf];omega
  · obtain rfl:i=n:=by omega
    have HF:Hid (frM l=if(frTo l i).2<0∨((frTo l i).2=0/\(frTo l i).1<0) then(-(frTo l i).1,-(frTo l i).2) else((frTo l i).1,(frTo l i).2)):=(by unfold frM;rw[HN.out]:frM l=if(frTo l i).2<0∨((frTo l i).2=0/\(frTo l i).1<0) then(-(frTo l i).1,-(frTo l i).2) else((frTo l i).1,(frTo l i).2))
    obtain⟨p,hp⟩:∃ p,(frTo l i).1=p:=⟨_,rfl⟩
    obtain⟨q,hq⟩:∃ q,(frTo l i).2=q:=⟨_,rfl⟩
    rw[hp]at HF b1 b2 ⊢
    rw[hq]at HF b3 b4 ⊢
    clear hp hq
    by_cases h1:q<0
    · have HF2:Hid (frM l=(-p,-q)):=(by rw[HF.out,if_pos (Or.inl h1)]:frM l=(-p,-q))
      go_wp2
      go_ret2
      exact⟨ret_two (by rw[HF2.out]) (by rw[HF2.out]),hb.out⟩
    · by_cases h2:q=0
      · subst h2
        by_cases h3:p<0
        · have HF2:Hid (frM l=(-p,0)):=(by rw[HF.out,if_pos (Or.inr ⟨rfl,h3⟩)];rfl:frM l=(-p,0))
          go_wp2
          go_ret2
          exact⟨ret_two (by rw[HF2.out]) (by rw[HF2.out]),hb.out⟩
        · have HF2:Hid (frM l=(p,0)):=(by rw[HF.out,if_neg (by omega)]:frM l=(p,0))
          go_wp2
          go_ret2
          exact⟨ret_two (by rw[HF2.out]) (by rw[HF2.out]),hb.out⟩
      · have HF2:Hid (frM l=(p,q)):=(by rw[HF.out,if_neg (by omega)]:frM l=(p,q))
        have hqz:(q==0)=false:=by simp;omega
        go_wp2
        go_ret2
        exact⟨ret_two (by rw[HF2.out]) (by rw[HF2.out]),hb.out⟩
theorem fraction_yes (a : Option Addr) (cap : Nat) (l : List Int) (w : World) (hl : l.length ≤ 140737488355328) (hn : listN l = 0) (h : RdAt w w.heap.size 1 (.slice a l.length cap) l.length (intsV l)) :
    Calls Try.prog 4 #[.slice a l.length cap] w fun e w'=>e=.returned (.tuple #[.int .i64 (frM l).1,.int .i64 (frM l).2,.int .i64 0])/\Below w.heap.size w w':=by
 have HF:Hid (Calls Try.prog 12 #[.slice a l.length cap] w fun e w'=>e=.returned (.int .i64 (listN l))/\Below w.heap.size w w'):=tgRefusal_any a cap l w hl h
 rw[hn]at HF
 obtain⟨g1,g2,g3⟩:=listN_ok hn
 have HG:Hid (∀ W,Below w.heap.size w W->Calls Try.prog 13 #[.slice a l.length cap] W fun e w'=>e=.returned (.tuple #[.int .i64 (frM l).1,.int .i64 (frM l).2])/\Below W.heap.size W w'):=fun W hW=>tgFractionOf_any a cap l W hl g3 g1 ((h.on hW).mono hW.size)
 clear h g1 g2 g3 hn
 go_enter Try.func4,Try.ntmps4
 go_wp2_with (go_at_call 12;refine HF.out.mono ?_;rintro e9 w2 ⟨rfl,hb2⟩;refine Hid.out ?_)
 refine Lib.hid ?_
 have HB2:Hid (Below w.heap.size w w2):=hb2
 clear hb2
 go_wp2_with (go_at_call 13;refine(HG.out _ HB2.out).mono ?_;rintro e9 w3 ⟨rfl,hb3⟩;refine Hid.out ?_)
 refine Lib.hid ?_
 have HB3:Hid (Below w.heap.size w w3):=HB2.out.trans (hb3.mono HB2.out.size)
 clear hb3
 go_wp2
 go_ret3
 exact⟨rfl,HB3.out⟩
end Go.Proofs.Ytgagenmkpmmpfaa
/- Slices as they are handed in, and copies of them. -/
namespace Go.Proofs.Ytgagenmkpmmpfaa
open Go.RowKit
def InAt (w:World) (B size:Nat) (v:Value) (n:Nat) (xs:List Value):Prop:=
 (v=.slice none 0 0/\n=0)∨(∃ ad cap,v=.slice (some ad) 0 cap/\n=0)∨∃ b off cap,v=.slice (some ⟨b,off,none⟩) n cap/\b<B/\∀ j,j<n*size->w.cell? ⟨b,off+j,none⟩=xs[j]?
theorem InAt.on {w w':World} {B size n:Nat} {v:Value} {xs:List Value} (h:InAt w B size v n xs) (hb:Below B w w'):InAt w' B size v n xs:=by
 rcases h with h|h|⟨b,off,cap,rfl,hlt,hc⟩
 · exact Or.inl h
 · exact Or.inr (Or.inl h)
 · exact Or.inr (Or.inr ⟨b,off,cap,rfl,hlt,fun j hj=>bcell hb hlt (hc j hj)⟩)
theorem InAt.up {w w':World} {size n:Nat} {v:Value} {xs:List Value} (h:InAt w w.heap.size size v n xs) (hb:Below w.heap.size w w'):InAt w' w'.heap.size size v n xs:=by
 rcases h.on hb with h|h|⟨b,off,cap,e,hlt,hc⟩
 · exact Or.inl h
 · exact Or.inr (Or.inl h)
 · exact Or.inr (Or.inr ⟨b,off,cap,e,Nat.lt_of_lt_of_le hlt hb.size,hc⟩)
end Go.Proofs.Ytgagenmkpmmpfaa
