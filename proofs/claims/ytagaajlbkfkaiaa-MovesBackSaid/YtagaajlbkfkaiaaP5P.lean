/- Several texts of the proof, one behind the other. -/
import Derived.Test.YtagaajlbkfkaiaaW3P
import Derived.Test.YtagaajlbkfkaiaaK3P
import Derived.Test.YtagaajlbkfkaiaaH6P
/- A crossing is stored whole into a row. -/
namespace Go.Proofs.Ytagaajlbkfkaiaa
open Go.RowKit
end Go.Proofs.Ytagaajlbkfkaiaa
/- The walks of ref.MirrorOf and canon.Mirror. -/
namespace Go.Proofs.Ytagaajlbkfkaiaa
open Go.RowKit
end Go.Proofs.Ytagaajlbkfkaiaa
/- The arc on which the other strand goes on; the walk of Drawing.Aside. -/
namespace Go.Proofs.Ytagaajlbkfkaiaa
open Go.RowKit
end Go.Proofs.Ytagaajlbkfkaiaa
/- Plain mathematics: arcs that are one when crossings are gone; their numbers; what is left of a diagram. -/
namespace Go.Proofs.Ytagaajlbkfkaiaa
def uTo (C:List Cr) (f:Nat->Nat) (G:List Nat):Nat->List (Nat×Nat)
 |0=>[]
 |a+1=>uTo C f G a++(if toC C (a+1)∈G then [(a+1,f (a+1))] else [])
theorem mem_uTo {C:List Cr} {f:Nat->Nat} {G:List Nat} {n:Nat} {e:Nat×Nat}:e∈uTo C f G n↔∃ a,1<=a/\a<=n/\toC C a∈G/\e=(a,f a):=by
 induction n with
 |zero=>
  refine⟨fun h=>(by cases h),fun⟨a,h1,h2,_⟩=>absurd h2 (by omega)⟩
 |succ n ih=>
  rw[uTo,List.mem_append,ih]
  constructor
  · rintro(⟨a,h1,h2,h3,h4⟩|h)
    · exact⟨a,h1,by omega,h3,h4⟩
    · split at h
      · rename_i hg
        exact⟨n+1,by omega,Nat.le_refl _,hg,by simpa using h⟩
      · cases h
  · rintro⟨a,h1,h2,h3,h4⟩
    by_cases e:a=n+1
    · subst e
      right
      rw[if_pos h3]
      simp[h4]
    · exact Or.inl ⟨a,h1,by omega,h3,h4⟩
def uniM (C:List Cr) (f:Nat->Nat) (G:List Nat):List Nat:=mers (List.range (2*C.length+1)) (uTo C f G (2*C.length))
theorem uTo_lt {C:List Cr} {f:Nat->Nat} {G:List Nat} (hf:∀ a,1<=a->a<=2*C.length->1<=f a/\f a<=2*C.length):∀ e,e∈uTo C f G (2*C.length)->(1<=e.1/\e.1<2*C.length+1)/\(1<=e.2/\e.2<2*C.length+1):=fun e he=>by
 obtain⟨a,h1,h2,-,rfl⟩:=mem_uTo.1 he
 have:=hf a h1 h2
 exact⟨⟨h1,by dsimp only;omega⟩,this.1,by dsimp only;omega⟩
theorem uni_least {C:List Cr} {f:Nat->Nat} {G:List Nat} (hf:∀ a,1<=a->a<=2*C.length->1<=f a/\f a<=2*C.length):Least (uTo C f G (2*C.length)) (2*C.length+1) (uniM C f G):=by
 have:=mers_least (2*C.length+1) (uTo C f G (2*C.length)) [] (List.range (2*C.length+1)) (fun e he=>by
  have h:=uTo_lt hf e (by simpa using he)
  exact⟨h.1.2,h.2.2⟩) (least_nil _)
 simpa[uniM] using this
def goneB (C:List Cr) (G:List Nat) (a:Nat):Bool:=if a=0 then false else decide (toC C a∈G)
def stP (C:List Cr) (G:List Nat) (L:List Nat) (m v:Nat):Prop:=∃ a,a<m/\L.getD a 0=v/\goneB C G a=false
def thP (C:List Cr) (G:List Nat) (L:List Nat) (v:Nat):Prop:=∃ i s,i<C.length/\i ∉ G/\s<4/\L.getD ((C.getD i Cr.none).arc s).toNat 0=v
theorem nodup_sub:∀ (l m:List Nat),l.Nodup->(∀ x,x∈l->x∈m)->l.length<=m.length:=by
 intro l
 induction l with
 |nil=>intro m _ _;exact Nat.zero_le _
 |cons x l ih=>
  intro m hn hs
  obtain⟨h1,h2⟩:=List.nodup_cons.1 hn
  have hx:x∈m:=hs x (List.Mem.head _)
  have:=ih (m.erase x) h2 (fun y hy=>by
   have hne:y≠x:=fun e=>h1 (e▸hy)
   exact(List.mem_erase_of_ne hne).2 (hs y (List.Mem.tail _ hy)))
  have hl:=List.length_erase_of_mem hx
  have hp:=List.length_pos_of_mem hx
  simp only[List.length_cons]
  omega
theorem onto_class (f:Nat->Nat) (K:List Nat) (hn:K.Nodup) (hf:∀ a,a∈K->f a∈K) (hi:∀ a b,a∈K->b∈K->f a=f b->a=b) (y:Nat) (hy:y∈K):∃ x,x∈K/\f x=y:=by
 refine Classical.byContradiction fun h=>?_
 have hno:y ∉ K.map f:=fun hm=>by
  obtain⟨x,hx,e⟩:=List.mem_map.1 hm
  exact h ⟨x,hx,e⟩
 have hnm:(K.map f).Nodup:=List.pairwise_map.2 (hn.imp_of_mem fun ha hb hab e=>hab (hi _ _ ha hb e))
 have:=nodup_sub (y::K.map f) K (List.nodup_cons.2 ⟨hno,hnm⟩) (fun x hx=>by
  rcases List.mem_cons.1 hx with rfl|hx
  · exact hy
  · obtain⟨z,hz,rfl⟩:=List.mem_map.1 hx
    exact hf z hz)
 simp only[List.length_cons,List.length_map]at this
 omega
structure Goes (C:List Cr) (f:Nat->Nat):Prop where
 closed:∀ a,1<=a->a<=2*C.length->1<=f a/\f a<=2*C.length
 inj:∀ a b,1<=a->a<=2*C.length->1<=b->b<=2*C.length->f a=f b->a=b
 out:∀ a,1<=a->a<=2*C.length->enC C (f a) false=toC C a
theorem st_th {C:List Cr} {loops:Int} (hm:mayD C loops=true) {f:Nat->Nat} (hf:Goes C f) (G:List Nat) (v:Nat) (h1:1<=v):
    thP C G (uniM C f G) v↔((uniM C f G).getD v 0=v/\stP C G (uniM C f G) (2*C.length+1) v):=by
 have hL:=uni_least (G:=G) hf.closed
 generalize hE:uniM C f G=L at hL ⊢
 have hpos:∀ e,e∈uTo C f G (2*C.length)->1<=e.1/\1<=e.2:=fun e he=>⟨(uTo_lt hf.closed e he).1.1,(uTo_lt hf.closed e he).2.1⟩
 constructor
 · rintro⟨i,s,hi,hG,hs,e⟩
   have ho:=en_one hm i s hi hs
   obtain⟨a,ha⟩:∃ a,((C.getD i Cr.none).arc s).toNat=a:=⟨_,rfl⟩
   rw[ha]at e ho
   obtain⟨a1,a2,a3⟩:=ho
   have hroot:=hL.root (v:=a) (by omega)
   rw[e]at hroot
   refine⟨hroot,?_⟩
   cases hc:(C.getD i Cr.none).comes s with
   |true=>
    rw[hc]at a3
    refine⟨a,by omega,e,?_⟩
    unfold goneB
    rw[if_neg (by omega)]
    have e3:toC C a=i:=a3
    rw[e3]
    simpa using hG
   |false=>
    rw[hc]at a3
    refine Classical.byContradiction fun hno=>?_
    have hall:∀ x,1<=x->x<=2*C.length->L.getD x 0=v->toC C x∈G:=fun x x1 x2 x3=>Classical.byContradiction fun hx=>hno ⟨x,by omega,x3,by unfold goneB;rw[if_neg (by omega)];simpa using hx⟩
    obtain⟨K,hK⟩:∃ K,K=(List.range (2*C.length+1)).filter (fun x=>decide (1<=x)&&decide (L.getD x 0=v)):=⟨_,rfl⟩
    have hmem:∀ x,x∈K↔(1<=x/\x<=2*C.length/\L.getD x 0=v):=fun x=>by
     rw[hK,List.mem_filter,List.mem_range]
     simp only[Bool.and_eq_true,decide_eq_true_eq]
     omega
    obtain⟨x,hx,hfx⟩:=onto_class f K (by rw[hK];exact List.nodup_range.filter _) (fun x hx=>by
     obtain⟨x1,x2,x3⟩:=(hmem x).1 hx
     have hc2:=hf.closed x x1 x2
     refine(hmem _).2 ⟨hc2.1,hc2.2,?_⟩
     rw[<-x3]
     exact((hL.same (by omega) (by omega)).2 (Con.edge (mem_uTo.2 ⟨x,x1,x2,hall x x1 x2 x3,rfl⟩))).symm) (fun x y hx hy e=>by
     obtain⟨x1,x2,-⟩:=(hmem x).1 hx
     obtain⟨y1,y2,-⟩:=(hmem y).1 hy
     exact hf.inj x y x1 x2 y1 y2 e) a ((hmem a).2 ⟨a1,a2,e⟩)
    obtain⟨x1,x2,x3⟩:=(hmem x).1 hx
    have h5:=hf.out x x1 x2
    rw[hfx,a3]at h5
    exact hG (h5▸hall x x1 x2 x3)
 · rintro⟨hr,a,ha,e,hg⟩
   have a1:1<=a:=by
    rcases Nat.eq_zero_or_pos a with rfl|h
    · have:=hL.le (v:=0) (by omega)
      omega
    · exact h
   obtain⟨-,h4,h5,h6,h7⟩:=to_may hm a a1 (by omega)
   unfold goneB at hg
   rw[if_neg (by omega)]at hg
   exact⟨toC C a,toS C a,h4,by simpa using hg,h5,by rw[h6];exact e⟩
def cntB (P:Nat->Bool):Nat->Nat
 |0=>0
 |k+1=>cntB P k+(if 1<=k/\P k=true then 1 else 0)
theorem cntB_le (P:Nat->Bool) (k:Nat):cntB P k<=k:=by
 induction k with
 |zero=>exact Nat.le_refl _
 |succ k ih=>simp only[cntB];split<;>omega
def numM (L:List Nat) (P:Nat->Bool) (a:Nat):Nat:=if P (L.getD a 0)=true then cntB P (L.getD a 0)+1 else 0
def reX (h:Nat->Nat) (x:Cr):Cr:=⟨h x.a.toNat,h x.b.toNat,h x.c.toNat,h x.d.toNat,x.plus⟩
def reTo (C:List Cr) (G:List Nat) (h:Nat->Nat):Nat->List Cr
 |0=>[]
 |i+1=>reTo C G h i++(if i∈G then [] else [reX h (C.getD i Cr.none)])
theorem reTo_len (C:List Cr) (G:List Nat) (h:Nat->Nat) (i:Nat):(reTo C G h i).length<=i:=by
 induction i with
 |zero=>exact Nat.le_refl _
 |succ i ih=>simp only[reTo,List.length_append];split<;>simp<;>omega
theorem to_side {C:List Cr} {loops:Int} (hm:mayD C loops=true) (k s:Nat) (hk:k<C.length) (hs:s<4) (hc:(C.getD k Cr.none).comes s=true):1<=((C.getD k Cr.none).arc s).toNat/\((C.getD k Cr.none).arc s).toNat<=2*C.length/\toC C ((C.getD k Cr.none).arc s).toNat=k/\toS C ((C.getD k Cr.none).arc s).toNat=s:=by
 have hf:=may_fit hm k s hk hs
 have g1:=hf.1
 have g2:=hf.2.1
 have ha:1<=((C.getD k Cr.none).arc s).toNat/\((C.getD k Cr.none).arc s).toNat<=2*C.length:=by omega
 have e:=end_one hm _ ha.1 ha.2 true k s hk hs (by omega) hc
 refine⟨ha.1,ha.2,?_,?_⟩
 · unfold toC;rw[e];rfl
 · unfold toS;rw[e];rfl
end Go.Proofs.Ytagaajlbkfkaiaa
/- The walks of slices.Contains of numbers, of the closure that tells an arc's new number, and of drawing.Renumbered with it. -/
namespace Go.Proofs.Ytagaajlbkfkaiaa
open Go.RowKit
set_option maxHeartbeats 4000000
set_option maxRecDepth 100000
def hasG (G:List Nat) (v:Int):Bool:=G.any fun g=>decide ((g:Int)=v)
theorem hasG_nat (G:List Nat) (v:Nat):hasG G (v:Int)=decide (v∈G):=by
 unfold hasG
 rw[Bool.eq_iff_iff]
 simp only[List.any_eq_true,decide_eq_true_eq]
 exact ⟨fun ⟨x, hx, e⟩ => by have : x = v := by omega
                             exact this ▸ hx, fun h => ⟨v, h, rfl⟩⟩
theorem hasG_neg (G:List Nat):hasG G (-1)=false:=by
 unfold hasG
 rw[List.any_eq_false]
 intro x _
 simp only[decide_eq_true_eq]
 omega
theorem indexZ_any (b off cap:Nat) (G:List Nat) (v:Int) (w:World) (hm:G.length<=1000) (hbw:b<w.heap.size) (h:∀ i,i<G.length->w.cell? ⟨b,off+i,none⟩=some (.int .i64 (G.getD i 0:Nat))):
    Calls Try.prog 146 #[.slice (some ⟨b,off,none⟩) G.length cap,.int .i64 v] w fun e w'=>∃ r:Int,e=.returned (.int .i64 r)/\decide (0<=r)=hasG G v/\Below w.heap.size w w':=by
 have HC:=hidB h
 have HB:Hid (Below w.heap.size w w):=Below.refl _ _
 clear h
 obtain⟨m,hmm⟩:∃ m,m=G.length:=⟨_,rfl⟩
 have HMM:=hidB hmm
 rw[<-hmm]at hm HC ⊢
 clear hmm
 go_enter Try.func146,Try.ntmps146
 go_wp2
 go_loopw [8] (fun v8 wr=>∃ i:Nat,i<=m/\v8=.int .i64 (i:Nat)/\Hid ((∀ k,k<i->(G.getD k 0:Int)≠v)/\Below w.heap.size w wr)) (fun v8 _=>m-(intOf v8).toNat)
 case atStart=>exact⟨0,Nat.zero_le _,rfl,⟨fun k hk=>absurd hk (Nat.not_lt_zero _),HB.out⟩⟩
 case round=>
  clear HB
  rename World=>W1
  obtain⟨i,hin,rfl,hp⟩:=hrel
  by_cases hil:i<m
  · have c0:=bcell hp.out.2 hbw (HC.out i hil)
    obtain⟨x,hx⟩:∃ x,G.getD i 0=x:=⟨_,rfl⟩
    have HX:=hidB hx
    rw[hx]at c0
    clear hx
    by_cases he:v=(x:Int)
    · have heq:(v==(x:Int))=true:=by simp[he]
      have HE:=hidB he
      clear he
      have HG:Hid (hasG G v=true):=(by
       unfold hasG
       rw[List.any_eq_true]
       refine⟨G.getD i 0,?_,by rw[HX.out,HE.out];simp⟩
       have hl:i<G.length:=by have:=HMM.out;omega
       rw[List.getD_eq_getElem?_getD,List.getElem?_eq_getElem hl]
       exact List.getElem_mem hl:hasG G v=true)
      go_wp2
      go_ret
      exact⟨i,rfl,by rw[HG.out];simp,hp.out.2⟩
    · have heq:(v==(x:Int))=false:=by simp[he]
      have HE:=hidB he
      clear he
      go_wp2
      go_roundw
      case rel=>exact⟨i+1,by omega,by go_num,⟨fun k hk=>by
       by_cases e:k=i
       · rw[e,HX.out];exact fun q=>HE.out q.symm
       · exact hp.out.1 k (by omega),hp.out.2⟩⟩
      case measure=>simp only[intOf];omega
  · obtain rfl:i=m:=by omega
    have HG:Hid (hasG G v=false):=(by
     unfold hasG
     rw[List.any_eq_false]
     intro y hy
     obtain⟨j,hj,rfl⟩:=List.getElem_of_mem hy
     have:=hp.out.1 j (by have:=HMM.out;omega)
     simpa[List.getD_eq_getElem?_getD,hj] using this:hasG G v=false)
    go_wp2
    go_ret
    exact⟨-1,rfl,by rw[HG.out];rfl,hp.out.2⟩
theorem containsG_any (b off cap:Nat) (G:List Nat) (v:Int) (w:World) (hm:G.length<=1000) (hbw:b<w.heap.size) (h:∀ i,i<G.length->w.cell? ⟨b,off+i,none⟩=some (.int .i64 (G.getD i 0:Nat))):
    Calls Try.prog 133 #[.slice (some ⟨b,off,none⟩) G.length cap,.int .i64 v] w fun e w'=>e=.returned (.bool (hasG G v))/\Below w.heap.size w w':=by
 have HI:=hidB (indexZ_any b off cap G v w hm hbw h)
 clear h
 go_enter Try.func133,Try.ntmps133
 go_wp2_with (go_at_call 146;refine HI.out.mono ?_;rintro e9 w2 ⟨r,rfl,hr,hb2⟩;refine Hid.out ?_)
 refine Lib.hid ?_
 have HR:=hidB hr
 have HB2:=hidB hb2
 clear hr hb2
 go_wp2
 go_ret
 exact⟨ret_bool HR.out.symm,HB2.out⟩
def NumAt (w:World) (gV g N:Nat) (M:List Nat):Prop:=w.heap[gV]?=some (.cells #[.slice (some ⟨g,0,none⟩) N N] 46 (0,0))/\g<w.heap.size/\∀ i,i<N->w.cell? ⟨g,i,none⟩=some (.int .i64 (M.getD i 0:Nat))
theorem NumAt.on {B:Nat} {w w':World} {gV g N:Nat} {M:List Nat} (h:NumAt w gV g N M) (hb:Below B w w') (l1:gV<B) (l2:g<B):NumAt w' gV g N M:=
 ⟨(hb.block _ l1).trans h.1,Nat.lt_of_lt_of_le h.2.1 hb.size,fun i hi=>bcell hb l2 (h.2.2 i hi)⟩
theorem withoutNum_any (s x gV g N:Nat) (M:List Nat) (w:World) (hx:x<N) (hA:NumAt w gV g N M):
    Calls Try.prog 134 #[.int .i64 (s:Nat),.int .i64 (x:Nat),.pointer (some ⟨gV,0,none⟩)] w fun e w'=>e=.returned (.int .i64 (M.getD x 0:Nat))/\Below w.heap.size w w':=by
 have c0:=block_cell (i:=0) hA.1 rfl
 have l0:gV<w.heap.size:=(Array.getElem?_eq_some_iff.1 hA.1).1
 have l1:=hA.2.1
 have c1:=hA.2.2 x hx
 clear hA
 go_enter Try.func134,Try.ntmps134
 go_wp2
 go_ret
 exact⟨rfl,Below.refl _ _⟩
theorem renumbered_num (x:Cr) (gV gN N:Nat) (M:List Nat) (w:World) (h1:∀ k,k<4->0<=x.arc k/\x.arc k<(N:Int)) (hX:NumAt w gV gN N M):
    Calls Try.prog 100 #[.agg #[.int .i64 x.a,.int .i64 x.b,.int .i64 x.c,.int .i64 x.d,.bool x.plus],.func (.func 134) #[] #[.pointer (some ⟨gV,0,none⟩)]] w fun e w'=>e=.returned (.agg #[.int .i64 (M.getD x.a.toNat 0:Nat),.int .i64 (M.getD x.b.toNat 0:Nat),.int .i64 (M.getD x.c.toNat 0:Nat),.int .i64 (M.getD x.d.toNat 0:Nat),.bool x.plus])/\Below w.heap.size w w':=by
 have HX:=hidB hX
 have H1:=hidB h1
 have l1:gV<w.heap.size:=(Array.getElem?_eq_some_iff.1 hX.1).1
 have l2:=hX.2.1
 clear h1 hX
 obtain⟨w0,hw0⟩:∃ w0,w0=((w.alloc (.cells #[.int .i64 x.a,.int .i64 x.b,.int .i64 x.c,.int .i64 x.d,.bool x.plus] 71)).alloc (.cells #[.int .i64 0,.int .i64 0,.int .i64 0,.int .i64 0,.bool false] 71)).alloc (.cells #[.int .i64 0,.int .i64 0,.int .i64 0,.int .i64 0] 116):=⟨_,rfl⟩
 have HW0:=hidB hw0
 have hs0:w0.heap.size=w.heap.size+3:=by rw[hw0];simp
 have HB0:=hidB (show Below w.heap.size w w0 by rw[hw0];exact below3 _ _ _ _)
 have HT0:=hidB (show w0.heap[w.heap.size]?=some (.cells #[.int .i64 x.a,.int .i64 x.b,.int .i64 x.c,.int .i64 x.d,.bool x.plus] 71 (0,0)) by rw[hw0];exact alloc_old (alloc_old (alloc_at rfl)))
 have HT1:=hidB (show w0.heap[w.heap.size+1]?=some (.cells #[.int .i64 0,.int .i64 0,.int .i64 0,.int .i64 0,.bool false] 71 (0,0)) by rw[hw0];exact alloc_old (alloc_at (by simp)))
 obtain⟨g,hg⟩:∃ g:Nat->Int,g=fun k=>((M.getD (x.arc k).toNat 0:Nat):Int):=⟨_,rfl⟩
 have HG:Hid (∀ k,((M.getD (x.arc k).toNat 0:Nat):Int)=g k):=fun k=>by rw[hg]
 have HT2:=hidB (show w0.heap[w.heap.size+1+1]?=some (.cells (intArr (numTo g 0)) 116 (0,0)) by rw[hw0,numTo_zero];exact alloc_at (by simp))
 have G0:((M.getD x.a.toNat 0:Nat):Int)=g 0:=by rw[hg];rfl
 have G1:((M.getD x.b.toNat 0:Nat):Int)=g 1:=by rw[hg];rfl
 have G2:((M.getD x.c.toNat 0:Nat):Int)=g 2:=by rw[hg];rfl
 have G3:((M.getD x.d.toNat 0:Nat):Int)=g 3:=by rw[hg];rfl
 rw[G0,G1,G2,G3]
 clear hw0 hg G0 G1 G2 G3
 go_enter Try.func100,Try.ntmps100
 go_wp2_with (go_at_call 75;rw[<-HW0.out];refine(arcs_any x _).mono ?_;rintro e9 w1 ⟨rfl,hb1⟩;refine Hid.out ?_)
 refine Lib.hid ?_
 have HB1:=hidB (HB0.out.trans (hb1.mono (by omega)))
 have hs1:=hb1.size
 have HA1:=hidB ((hb1.block _ (by omega)).trans HT2.out)
 have HC1:=hidB ((hb1.block _ (by omega)).trans HT0.out)
 have HR1:=hidB ((hb1.block _ (by omega)).trans HT1.out)
 clear hb1
 go_wp2
 go_loopw [10] (fun v10 wr=>∃ k:Nat,k<=4/\v10=.int .i64 (k:Nat)/\Hid (wr.heap[w.heap.size+1+1]?=some (.cells (intArr (numTo g k)) 116 (0,0)))/\Below (w.heap.size+1+1) w1 wr) (fun v10 _=>4-(intOf v10).toNat)
 case atStart=>exact⟨0,Nat.zero_le _,rfl,HA1.out,Below.refl _ _⟩
 case round=>
  rename World=>W1
  obtain⟨k,hk,rfl,hA,hb⟩:=hrel
  have hsz:=hb.size
  by_cases hkl:k<4
  · have hix:=index_arr x k hkl
    have HBX:=hidB (HX.out.on (HB1.out.trans (hb.mono (by omega))) l1 l2)
    obtain⟨y,hy⟩:∃ y:Nat,x.arc k=(y:Int):=⟨(x.arc k).toNat,by have:=(H1.out k hkl).1;omega⟩
    have hyN:y<N:=by have:=(H1.out k hkl).2;omega
    have HGK:=hidB (show((M.getD y 0:Nat):Int)=g k by rw[<-HG.out k,hy];rfl)
    have HN:=hidB ((numTo_next g k hkl).symm)
    rw[hy]at hix
    clear hy
    go_wp2_with (go_at_call 134;refine(withoutNum_any k y gV gN N M _ hyN HBX.out).mono ?_;rw[HGK.out];rintro e9 w2 ⟨rfl,hb2⟩;refine Hid.out ?_)
    refine Lib.hid ?_
    have HB2:=hidB hb2
    have hs2:=hb2.size
    have hA2:w2.heap[w.heap.size+1+1]?=some (.cells (intArr (numTo g k)) 116 (0,0)):=(hb2.block _ (by omega)).trans hA.out
    have HA2:=hidB hA2
    have e0:w2.cell? ⟨w.heap.size+1+1,k,none⟩=some (.int .i64 ((numTo g k).getD k 0)):=block_cell hA2 (intArr_get _ k (by rw[numTo_len];exact hkl))
    have z0:=block_frozen (i:=k) hA2
    have hlt:w.heap.size+1+1<w2.heap.size:=by omega
    generalize (numTo g k).getD k 0=u at e0
    clear hb2 hA2
    go_wp2
    go_roundw
    case rel=>exact⟨k+1,by omega,by go_num,(by rw[HN.out,<-intArr_set];exact set_block HA2.out:(w2.setCell ⟨w.heap.size+1+1,k,none⟩ (.int .i64 (g k))).heap[w.heap.size+1+1]?=some (.cells (intArr (numTo g (k+1))) 116 (0,0))),(hb.trans (HB2.out.mono (by omega))).grown (set_grown w2 (w.heap.size+1+1) k (.int .i64 (g k))) (by omega) (fun q hq=>by have:=Option.some.inj hq;omega)⟩
    case measure=>simp only[intOf];omega
  · obtain rfl:k=4:=by omega
    have hA4:=hA.out
    rw[numTo_four]at hA4
    have hC:=(hb.block _ (by omega)).trans HC1.out
    have hR:=(hb.block _ (by omega)).trans HR1.out
    have HR:=hidB hR
    have a0:=block_cell (i:=0) hA4 rfl
    have a1:=block_cell (i:=1) hA4 rfl
    have a2:=block_cell (i:=2) hA4 rfl
    have a3:=block_cell (i:=3) hA4 rfl
    have a4:=block_cell (i:=4) hC rfl
    have hlt:w.heap.size+1+1<W1.heap.size:=by omega
    have HBW:=hidB (HB1.out.trans (hb.mono (by omega)))
    clear hA4 hC hR hA hb
    go_wp2_with (go_at_call 122;refine(crossOf_any ⟨(g 0),(g 1),(g 2),(g 3),x.plus⟩ _).mono ?_;rintro e9 w4 ⟨rfl,hb4⟩;refine Hid.out ?_)
    refine Lib.hid ?_
    have HR4:=hidB ((hb4.block _ (by omega)).trans HR.out)
    have HB4:=hidB (HBW.out.trans (hb4.mono (by omega)))
    have hs4:=hb4.size
    clear hb4 a0 a1 a2 a3 a4
    have r0:=block_cell (i:=0) HR4.out rfl
    have r1:=block_cell (i:=1) HR4.out rfl
    have r2:=block_cell (i:=2) HR4.out rfl
    have r3:=block_cell (i:=3) HR4.out rfl
    have r4:=block_cell (i:=4) HR4.out rfl
    have f0:=block_frozen (i:=0) HR4.out
    have f1:=block_frozen (i:=1) HR4.out
    have f2:=block_frozen (i:=2) HR4.out
    have f3:=block_frozen (i:=3) HR4.out
    have f4:=block_frozen (i:=4) HR4.out
    go_wp2
    have hX:=set_block (i:=4) (u:=.bool x.plus) (set_block (i:=3) (u:=.int .i64 (g 3)) (set_block (i:=2) (u:=.int .i64 (g 2)) (set_block (i:=1) (u:=.int .i64 (g 1)) (set_block (i:=0) (u:=.int .i64 (g 0)) HR4.out))))
    have x0:=block_cell (i:=0) (v:=.int .i64 (g 0)) hX rfl
    have x1:=block_cell (i:=1) (v:=.int .i64 (g 1)) hX rfl
    have x2:=block_cell (i:=2) (v:=.int .i64 (g 2)) hX rfl
    have x3:=block_cell (i:=3) (v:=.int .i64 (g 3)) hX rfl
    have x4:=block_cell (i:=4) (v:=.bool x.plus) hX rfl
    refine bodyPost_ret (v:=.agg #[.int .i64 (g 0),.int .i64 (g 1),.int .i64 (g 2),.int .i64 (g 3),.bool x.plus]) (by simp[results,Try.results100,go_sem,x0,x1,x2,x3,x4]) rfl ⟨rfl,?_⟩
    have hst:∀ (W:World) (u:Value) (i:Nat),Below w.heap.size w W->Below w.heap.size w (W.setCell ⟨w.heap.size+1,i,none⟩ u):=fun W u i h=>h.grown (set_grown W (w.heap.size+1) i u) h.size (fun q hq=>by have:=Option.some.inj hq;omega)
    exact hst _ _ _ (hst _ _ _ (hst _ _ _ (hst _ _ _ (hst _ _ _ HB4.out))))
end Go.Proofs.Ytagaajlbkfkaiaa
/- Which of two tellings is less: the walks of cmp.Compare, slices.Compare and canon.compare. -/
namespace Go.Proofs.Ytagaajlbkfkaiaa
open Go.RowKit
set_option maxHeartbeats 2000000
set_option maxRecDepth 100000
def cmpI (x y:Int):Int:=if x<y then -1 else if y<x then 1 else 0
def lexC:List Int->List Int->Int
 |[],[]=>0
 |[],_::_ => -1
 |_::_,[]=>1
 |x::s,y::t=>if x=y then lexC s t else cmpI x y
def cmpT (p q:List Nat×List Int):Int:=if p.1.length=q.1.length then lexC p.2 q.2 else cmpI p.1.length q.1.length
theorem isNaN_any (x:Int) (w:World):Calls Try.prog 135 #[.int .i64 x] w fun e w'=>e=.returned (.bool false)/\w'=w:=by
 go_enter Try.func135,Try.ntmps135
 go_wp2
 go_ret
 exact⟨by simp,rfl⟩
theorem cmpI_any (x y:Int) (w:World):Calls Try.prog 128 #[.int .i64 x,.int .i64 y] w fun e w'=>e=.returned (.int .i64 (cmpI x y))/\w'=w:=by
 go_enter Try.func128,Try.ntmps128
 go_wp2_with (go_at_call 135;refine(isNaN_any _ _).mono ?_;rintro e w' ⟨rfl,hw⟩;rw[hw])
 all_goals(go_ret;refine⟨?_,rfl⟩;unfold cmpI;(repeat' split)<;>first|rfl|(exfalso;omega))
theorem cmpI_zero {x y:Int}:cmpI x y=0↔x=y:=by
 unfold cmpI
 constructor
 · intro h;split at h
   · omega
   · split at h<;>omega
 · intro h;subst h;simp
theorem cmpI_lt {x y:Int}:cmpI x y<0↔x<y:=by
 unfold cmpI
 constructor
 · intro h;split at h
   · assumption
   · split at h<;>omega
 · intro h;rw[if_pos h];decide
theorem lexC_drop (a b:List Int) (i:Nat) (h:∀ q,q<i->a.getD q 0=b.getD q 0) (ha:i<=a.length) (hb:i<=b.length):lexC a b=lexC (a.drop i) (b.drop i):=by
 induction i with
 |zero=>rfl
 |succ i ih=>
  rw[ih (fun q hq=>h q (by omega)) (by omega) (by omega)]
  have e:=h i (by omega)
  rw[List.getD_eq_getElem?_getD,List.getD_eq_getElem?_getD,List.getElem?_eq_getElem (show i<a.length by omega),List.getElem?_eq_getElem (show i<b.length by omega)]at e
  rw[List.drop_eq_getElem_cons (show i<a.length by omega),List.drop_eq_getElem_cons (show i<b.length by omega),lexC,if_pos (by simpa using e)]
theorem lexC_at (a b:List Int) (i:Nat) (h:∀ q,q<i->a.getD q 0=b.getD q 0) (ha:i<a.length) (hb:i<b.length) (hne:a.getD i 0≠b.getD i 0):lexC a b=cmpI (a.getD i 0) (b.getD i 0):=by
 rw[lexC_drop a b i h (by omega) (by omega)]
 rw[List.getD_eq_getElem?_getD,List.getD_eq_getElem?_getD,List.getElem?_eq_getElem ha,List.getElem?_eq_getElem hb]at hne ⊢
 rw[List.drop_eq_getElem_cons ha,List.drop_eq_getElem_cons hb,lexC,if_neg (by simpa using hne)]
 rfl
theorem compareInts_any (v1 v2:Value) (l m:List Int) (w:World) (hl:l.length<=1000) (hm:m.length<=1000) (h1:Slots w w.heap.size v1 (intsV l)) (h2:Slots w w.heap.size v2 (intsV m)):
    Calls Try.prog 129 #[v1, v2] w fun e w' => e = .returned (.int .i64 (lexC l m)) ∧ w' = w := by
 obtain⟨a1,c1,rfl,g1⟩:=h1
 obtain⟨a2,c2,rfl,g2⟩:=h2
 rw[intsV_len]at g1 g2
 rw[intsV_len,intsV_len]
 have HG1 : Hid (0 < l.length → ∃ b off, a1 = some ⟨b, off, none⟩ ∧ b < w.heap.size ∧ ∀ i, i < l.length → w.cell? ⟨b, off + i, none⟩ = some ((intsV l).getD i (.bool false))) := g1
 have HG2 : Hid (0 < m.length → ∃ b off, a2 = some ⟨b, off, none⟩ ∧ b < w.heap.size ∧ ∀ i, i < m.length → w.cell? ⟨b, off + i, none⟩ = some ((intsV m).getD i (.bool false))) := g2
 have HV:Hid (∀ l:List Int,∀ i,i<l.length->(intsV l).getD i (.bool false)=.int .i64 (l.getD i 0)):=fun l i hi=>by rw[List.getD_eq_getElem?_getD,intsV_get l i hi];rfl
 clear g1 g2
 obtain⟨r,hr⟩:∃ r,lexC l m=r:=⟨_,rfl⟩
 have HLC : Hid (lexC l m = r) := hr
 rw[hr]
 clear hr
 go_enter Try.func129,Try.ntmps129
 go_wp2
 go_loopw [11] (fun v11 wr=>∃ k:Nat,k<=l.length/\k<=m.length/\v11=.int .i64 k/\Hid (∀ q,q<k->l.getD q 0=m.getD q 0)/\wr=w) (fun v11 _=>l.length-(intOf v11).toNat)
 case atStart=>exact⟨0,Nat.zero_le _,Nat.zero_le _,rfl,(fun q hq=>absurd hq (Nat.not_lt_zero _):∀ q,q<0->l.getD q 0=m.getD q 0),rfl⟩
 case round=>
  obtain⟨k,hk,hkm,rfl,heq,rfl⟩:=hrel
  by_cases hlt:k<l.length
  · obtain⟨b1,o1,rfl,hb1,q1⟩:=HG1.out (by omega)
    have p1:=q1 k hlt
    rw[HV.out l k hlt]at p1
    have hki:(k:Int)<(l.length:Int):=by omega
    by_cases hlm:k<m.length
    · obtain⟨b2,o2,rfl,hb2,q2⟩:=HG2.out (by omega)
      have p2:=q2 k hlm
      rw[HV.out m k hlm]at p2
      obtain⟨x,hx⟩:∃ x,l.getD k 0=x:=⟨_,rfl⟩
      obtain⟨y,hy⟩:∃ y,m.getD k 0=y:=⟨_,rfl⟩
      have HX : Hid (l.getD k 0 = x) := hx
      have HY:Hid (m.getD k 0=y):=hy
      rw[hx]at p1
      rw[hy]at p2
      have hdm:decide ((m.length:Int)<=(k:Int))=false:=decide_eq_false (by omega)
      have hdm2:decide (m.length<=k)=false:=decide_eq_false (by omega)
      clear q1 q2 hx hy
      by_cases hxy:x=y
      · subst hxy
        have HC:Hid (cmpI x x=0):=cmpI_zero.2 rfl
        go_wp2_with (go_at_call 128;refine(cmpI_any x x _).mono ?_;rw[HC.out];rintro e w' ⟨rfl,hw⟩;rw[hw])
        go_roundw
        case rel=>
         refine⟨k+1,by omega,by omega,by go_num,(fun q hq=>?_:∀ q,q<k+1->l.getD q 0=m.getD q 0),by first|rfl|trivial⟩
         by_cases e:q=k
         · subst e;rw[HX.out,HY.out]
         · exact heq.out q (by omega)
        case measure=>simp[intOf];omega
      · have hne:cmpI x y≠0:=fun h=>hxy (cmpI_zero.1 h)
        obtain⟨z,hgz⟩:∃ z,cmpI x y=z:=⟨_,rfl⟩
        obtain rfl:r=z:=by
         rw[<-HLC.out,lexC_at l m k heq.out hlt hlm (by rw[HX.out,HY.out];exact hxy),HX.out,HY.out,hgz]
        have HZ:Hid (cmpI x y=r):=hgz
        rw[hgz]at hne
        have hz:(r != 0)=true:=by simp[hne]
        have hz2:(r==0)=false:=beq_eq_false_iff_ne.2 hne
        clear hgz
        go_wp2_with (go_at_call 128;refine(cmpI_any x y _).mono ?_;rw[HZ.out];rintro e w' ⟨rfl,hw⟩;rw[hw])
        go_ret
        exact⟨rfl,rfl⟩
    · obtain rfl:k=m.length:=by omega
      have hdm:decide ((m.length:Int)<=(m.length:Int))=true:=decide_eq_true (by omega)
      obtain rfl:r=1:=by
       rw[<-HLC.out,lexC_drop l m m.length heq.out (by omega) (Nat.le_refl _),List.drop_length,List.drop_eq_getElem_cons hlt]
       rfl
      go_wp2
      go_ret
      exact⟨rfl,rfl⟩
  · obtain rfl:k=l.length:=by omega
    by_cases hlm:l.length<m.length
    · have hdm:decide ((l.length:Int)<(m.length:Int))=true:=decide_eq_true (by omega)
      obtain rfl:r = -1:=by
       rw[<-HLC.out,lexC_drop l m l.length heq.out (Nat.le_refl _) hkm,List.drop_length,List.drop_eq_getElem_cons hlm]
       rfl
      go_wp2
      go_ret
      exact⟨rfl,rfl⟩
    · have hll:m.length=l.length:=by omega
      have hdm:decide ((l.length:Int)<(m.length:Int))=false:=decide_eq_false (by omega)
      obtain rfl:r=0:=by
       rw[<-HLC.out,lexC_drop l m l.length heq.out (Nat.le_refl _) hkm,List.drop_length,List.drop_eq_nil_of_le (by omega)]
       rfl
      clear hll
      go_wp2
      go_ret
      exact⟨rfl,rfl⟩
theorem compareT_any (vo1 vc1 vo2 vc2:Value) (p q:List Nat×List Int) (w:World) (hp:p.2.length<=1000) (hq:q.2.length<=1000) (h1:∃ a c,vo1=.slice a p.1.length c) (h2:∃ a c,vo2=.slice a q.1.length c) (h3:Slots w w.heap.size vc1 (intsV p.2)) (h4:Slots w w.heap.size vc2 (intsV q.2)):
    Calls Try.prog 120 #[.agg #[vo1, vc1], .agg #[vo2, vc2]] w fun e w' => e = .returned (.int .i64 (cmpT p q)) ∧ w' = (w.alloc (.cells #[vo1, vc1] 148)).alloc (.cells #[vo2, vc2] 148) := by
 obtain⟨a1,c1,rfl⟩:=h1
 obtain⟨a2,c2,rfl⟩:=h2
 have hcT:cmpT p q=if p.1.length=q.1.length then lexC p.2 q.2 else cmpI p.1.length q.1.length:=rfl
 obtain⟨w0,hw0⟩:∃ w0,w0=(w.alloc (.cells #[.slice a1 p.1.length c1,vc1] 148)).alloc (.cells #[.slice a2 q.1.length c2,vc2] 148):=⟨_,rfl⟩
 have HW0 : Hid (w0 = (w.alloc (.cells #[.slice a1 p.1.length c1, vc1] 148)).alloc (.cells #[.slice a2 q.1.length c2, vc2] 148)) := hw0
 have hs0:w0.heap.size=w.heap.size+2:=by rw[hw0];simp
 have hB0:Below w.heap.size w w0:=by rw[hw0];exact below2 _ _ _
 have g0:w0.heap[w.heap.size]?=some (.cells #[.slice a1 p.1.length c1,vc1] 148 (0,0)):=by rw[hw0];exact alloc_old (alloc_at rfl)
 have g1:w0.heap[w.heap.size+1]?=some (.cells #[.slice a2 q.1.length c2,vc2] 148 (0,0)):=by rw[hw0];exact alloc_at (by simp)
 have t0:=block_cell (i:=0) g0 rfl
 have t1:w0.cell? ⟨w.heap.size,1,none⟩=some vc1:=block_cell g0 rfl
 have t2:=block_cell (i:=0) g1 rfl
 have t3:w0.cell? ⟨w.heap.size+1,1,none⟩=some vc2:=block_cell g1 rfl
 have HS:Hid (Slots w0 w0.heap.size vc1 (intsV p.2)/\Slots w0 w0.heap.size vc2 (intsV q.2)):=⟨(h3.on hB0).mono hB0.size,(h4.on hB0).mono hB0.size⟩
 obtain⟨a3,c3,rfl,-⟩:=h3
 obtain⟨a4,c4,rfl,-⟩:=h4
 clear hw0 hB0 g0 g1
 simp only[intsV_len]at t1 t3 HS HW0 ⊢
 have l0:w.heap.size<w0.heap.size:=by omega
 have l1:w.heap.size+1<w0.heap.size:=by omega
 by_cases hpq:p.1.length=q.1.length
 · rw[if_pos hpq]at hcT
   rw[hcT]
   have HZ : Hid (cmpI (p.1.length : Int) (q.1.length : Int) = 0) := cmpI_zero.2 (by omega)
   clear hcT hpq
   have HCI:Hid (∀ W,Slots W W.heap.size (.slice a3 p.2.length c3) (intsV p.2)->Slots W W.heap.size (.slice a4 q.2.length c4) (intsV q.2)->Calls Try.prog 129 #[.slice a3 p.2.length c3,.slice a4 q.2.length c4] W fun e w'=>e=.returned (.int .i64 (lexC p.2 q.2))/\w'=W):=fun W h1 h2=>compareInts_any _ _ p.2 q.2 W hp hq h1 h2
   generalize lexC p.2 q.2=r at HCI ⊢
   go_enter Try.func120,Try.ntmps120
   go_wp2_with (first|(go_at_call 128;rw[<-HW0.out];refine(cmpI_any _ _ _).mono ?_;rw[HZ.out];rintro e w' ⟨rfl,hw⟩;rw[hw])|(go_at_call 129;refine(HCI.out _ HS.out.1 HS.out.2).mono ?_;rintro e w' ⟨rfl,hw⟩;rw[hw]))
   go_ret
   exact⟨rfl,HW0.out⟩
 · rw[if_neg hpq]at hcT
   rw[hcT]
   have hne:cmpI (p.1.length:Int) (q.1.length:Int)≠0:=fun h=>hpq (by have:=cmpI_zero.1 h;omega)
   obtain⟨z,hz0⟩:∃ z,cmpI (p.1.length:Int) (q.1.length:Int)=z:=⟨_,rfl⟩
   have HZ : Hid (cmpI (p.1.length : Int) (q.1.length : Int) = z) := hz0
   rw[hz0]at hne ⊢
   have hz:(z != 0)=true:=by simp[hne]
   have hz2:(z==0)=false:=beq_eq_false_iff_ne.2 hne
   clear hcT hpq hz0
   go_enter Try.func120,Try.ntmps120
   go_wp2_with (first|(go_at_call 128;rw[<-HW0.out];refine(cmpI_any _ _ _).mono ?_;rw[HZ.out];rintro e w' ⟨rfl,hw⟩;rw[hw]))
   go_ret
   exact⟨rfl,HW0.out⟩
end Go.Proofs.Ytagaajlbkfkaiaa
