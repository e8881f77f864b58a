/- Several texts of the proof, one behind the other. -/
import Derived.Test.YtjcagkgpbcdghaaDoorBT0P
import Derived.Laws.IdiomRangeMap
import Derived.Test.YtjcagkgpbcdghaaDoorPMathP
/- Burau's tables: polynomials at work as values; the walks of terms.Work's methods at nil. -/
namespace Go.Proofs.YtjcagkgpbcdghaaDoor.Poly
open Go.RowKit Go.Maps
set_option maxHeartbeats 4000000
set_option maxRecDepth 100000
theorem QQ1 {P:Prop} (h:P):Hid P:=h
theorem Zg7 (v : Value) (w : World) :
    Calls Tryd.prog 17 #[.map none,v] w fun e w'=>e=.returned (.map (some w.heap.size))/\w'.ownsMap Tryd.prog 3 (plainElem Tryd.prog 3) w.heap.size 0 (.map []:DataW Unit)/\Below w.heap.size w w':=by
 have hmm:=@run_makeMap Tryd.prog
 have hrn:=fun w=>run_range_nilMap (P:=Tryd.prog) w 50 3 3 Tryd.underlying50
 obtain⟨Z,hZ⟩:∃ Z,Z=(w.alloc (.map #[] 0)).alloc (.mapIter none 0 #[] 0):=⟨_,rfl⟩
 have HZ:Hid (Z=(w.alloc (.map #[] 0)).alloc (.mapIter none 0 #[] 0)):=hZ
 have hnx:∀ ty,(Instr.next (.pointer (some ⟨w.heap.size+1,0,none⟩)) false ty).run Tryd.prog Z=.ok (.tuple #[.bool false]) Z:=fun ty=>by
  have h:=run_next_nilMap (P:=Tryd.prog) (w.alloc (.map #[] 0)) ty 0 0 #[]
  rw[hZ]
  rw[show(w.alloc (.map #[] 0)).heap.size=w.heap.size+1 by simp]at h
  exact h
 have HOW:Hid (Z.ownsMap Tryd.prog 3 (plainElem Tryd.prog 3) w.heap.size 0 (.map []:DataW Unit)):=(by rw[hZ];exact(World.ownsMap_made _ _ _ _).alloc _:Z.ownsMap Tryd.prog 3 (plainElem Tryd.prog 3) w.heap.size 0 (.map []:DataW Unit))
 have HBZ:Hid (Below w.heap.size w Z):=(by rw[hZ];exact((Below.refl _ _).alloc (Nat.le_refl _) _).alloc (by simp) _:Below w.heap.size w Z)
 clear hZ
 go_enter Tryd.func17,Tryd.ntmps17
 go_wp2
 rw[<-HZ.out]
 go_loopw [13] (fun _ wr=>Hid (wr=Z)) (fun _ _=>0)
 case atStart=>exact(rfl:Z=Z)
 case round=>
  obtain rfl:=hrel.out
  go_wp2
  go_ret
  exact⟨rfl,HOW.out,HBZ.out⟩
theorem ZQ8 (b n : Nat) (D : DataW Unit) (w : World) (hown : w.ownsMap Tryd.prog 3 (plainElem Tryd.prog 3) b n D) (hn : ∀ left acc, Coll D left acc → acc.length ≤ 1000000) :
    Calls Tryd.prog 19 #[.map (some b)] w fun e w'=>∃ v l,e=.returned v/\w'.ownsRow w.heap.size 56 2 v l.length (flat l)/\Canon l (coefOf D)/\Below w.heap.size w w':=by
 obtain⟨i0,hi,hz0,hz1,hz2⟩:=info_parts XA7
 have hbl:=hown.lt
 have HL:Hid (∀ left acc,Coll D left acc->acc.length<=1000000):=hn
 clear hn
 go_enter Tryd.func19,Tryd.ntmps19
 go_wp2_with (first|(at_range;refine wpList_range_own _ rfl _ 50 rfl 3 3 law3 Tryd.underlying50 _ b n _ rfl hown ?_;intro w0 hrg0 hg0 hs0)|go_in)
 go_frame
 go_loopw [3] (fun v wr => ∃ (left : Lit → Bool) (cnt : Nat) (acc : List (Int × Int)), wr.ranges Tryd.prog 3 (plainElem Tryd.prog 3) b w.heap.size n D left cnt ∧
     wr.ownsRow w.heap.size 56 2 v acc.length (flat acc)/\Hid (Coll D left acc)/\Below w.heap.size w wr)
  (fun _ wr=>wr.rangeLeft b w.heap.size)
 case atStart=>
  exact⟨_,_,[],hrg0,World.ownsRow_nil _ _ _ _,Qx3 D,(Below.refl _ _).grown hg0 (Nat.le_refl _) (fun j hj=>by cases hj)⟩
 case round=>
  obtain⟨left,cnt,acc,hrg,hrow,hC,hnx⟩:=hrel
  have hal:=HL.out _ _ hC.out
  go_wp2_with (first
   |(at_next;refine wpList_next_ranges_ii _ rfl _ rfl 3 3 .i64 .i64 law3 Tryd.underlying3 Tryd.underlying3 b w.heap.size n _ _ _ rfl hrg ?_ ?_)
   |go_in)
  · intro hc0 hl0
    have hc:=XX7 w.heap.size _ acc _ (by omega) hrow
    go_wp2_with (go_at_call 39;refine hc.mono ?_;rintro e w' ⟨rfl,l,hp,hs,hrow2,hg2⟩)
    go_ret
    refine⟨_,l,rfl,hrow2,XC3 hC.out hl0 hp hs,hnx.grown hg2 hnx.size (fun k hk=>(hrow.lt k hk).1)⟩
  · intro x c w1 cnt1 hwx hwc hlx hat hrg1 hlt hg1 hs1 hen
    have hrow1:=hrow.kept hg1 (Or.inr (row_ne_iter hrow hrg).symm)
    have hnx1:Below w.heap.size w w1:=hnx.grown hg1 hnx.size (fun j hj=>by cases hj;exact Nat.le_refl _)
    have Hat:Hid _:=hat
    clear hs1 hat
    by_cases hc:c=0
    · subst hc
      go_wp2
      go_roundw
      case rel=>exact⟨_,cnt1,acc,hrg1,hrow1,Qu3 hC.out Hat.out,hnx1⟩
      case measure=>rw[hrg1.left_eq,hrg.left_eq];exact hlt
    · have hcb:(c != 0)=true:=by rw[bne_iff_ne];exact hc
      have HC0:Hid (c≠0):=hc
      have hsz1:=hnx1.size
      clear hc
      go_wp2_with (first
       |(at_builtin;refine wpList_append_own _ rfl _ _ 33 rfl w.heap.size 56 i0 (.agg #[.int .i64 0,.int .i64 0]) 2 16 Tryd.underlying33 hi hz0 hz1 hz2 rfl (by decide) _ _ _ rfl (hrow1.alloc _) ⟨w1.heap.size,0,none⟩ 1 1 [.int .i64 x,.int .i64 c] rfl rfl (XZ8 _ _ _) (XH7 _ _) (by unfold maxLen;omega) (by omega) (by simp;omega) ?_;intro v' w3 hown' hg3 _;go_frame)
       |go_in)
      have hrg3:=(hrg1.alloc _).kept hg3 (row_ne_low hrow1 hbl) (row_ne_iter hrow1 hrg1)
      go_roundw
      case rel=>
       refine⟨_,cnt1,acc++[(x,c)],hrg3,?_,Qu4 hC.out hlx HC0.out Hat.out,(hnx1.alloc hsz1 _).grown hg3 (by simp;omega) (fun j hj=>(hrow1.lt j hj).1)⟩
       rw[flat_append,List.length_append]
       exact hown'
      case measure=>rw[hrg3.left_eq,hrg.left_eq];exact hlt
def WkV (w:World) (B:Nat) (v:Value) (n K:Nat) (f:Int->Int):Prop:=
 (v=.map none/\∀ y,f y=0)∨∃ (b:Nat) (D:DataW Unit),v=.map (some b)/\b<B/\w.ownsMap Tryd.prog 3 (plainElem Tryd.prog 3) b n D/\QX5 D (K:Int)/\∀ y,coefOf D y=f y
theorem WkV.on {w w':World} {B:Nat} {v:Value} {n K:Nat} {f:Int->Int} (h:WkV w B v n K f) (hb:Below B w w'):WkV w' B v n K f:=by
 rcases h with h|⟨b,D,rfl,hlt,ho,hk,hc⟩
 · exact Or.inl h
 · exact Or.inr ⟨b,D,rfl,hlt,Qh8 ho hb hlt,hk,hc⟩
theorem WkV.mono {w:World} {B B':Nat} {v:Value} {n n' K K':Nat} {f:Int->Int} (h:WkV w B v n K f) (hB:B<=B') (hn:n<=n') (hK:K<=K'):WkV w B' v n' K' f:=by
 rcases h with h|⟨b,D,rfl,hlt,ho,hk,hc⟩
 · exact Or.inl h
 · exact Or.inr ⟨b,D,rfl,Nat.lt_of_lt_of_le hlt hB,ho.mono hn,fun x hx=>by have:=hk x hx;omega,hc⟩
theorem WkV.set {w w':World} {B g:Nat} {v:Value} {n K:Nat} {f:Int->Int} {cs:Array Value} {e:TypeId} {z:Nat×Nat} (h:WkV w B v n K f) (hg:w.grownBy w' (some g)) (hc:w.heap[g]?=some (.cells cs e z)):WkV w' B v n K f:=by
 rcases h with h|⟨b,D,rfl,hlt,ho,hk,hcf⟩
 · exact Or.inl h
 · refine Or.inr ⟨b,D,rfl,hlt,ho.kept hg (fun e1=>?_),hk,hcf⟩
   obtain⟨es,clock,hm,-⟩:=ho
   rw[Option.some.inj e1,hc]at hm
   exact absurd hm (by simp)
theorem WkV.cell {w:World} {B:Nat} {v:Value} {n K:Nat} {f:Int->Int} (h:WkV w B v n K f):v=.map none∨∃ b,v=.map (some b):=by
 rcases h with h|⟨b,D,rfl,_⟩
 · exact Or.inl h.1
 · exact Or.inr ⟨b,rfl⟩
def LiV (w:World) (B b:Nat) (ql:List (Int×Int)):Prop:=b<B/\∃ D:DataW Unit,w.ownsMap Tryd.prog 3 (plainElem Tryd.prog 3) b 2 D/\QX5 D 1/\∀ y,coefOf D y=coefL ql y
theorem LiV.on {w w':World} {B b:Nat} {ql:List (Int×Int)} (h:LiV w B b ql) (hb:Below B w w'):LiV w' B b ql:=by
 obtain⟨h1,D,h2,h3⟩:=h
 exact⟨h1,D,Qh8 h2 hb h1,h3⟩
theorem LiV.mono {w:World} {B B' b:Nat} {ql:List (Int×Int)} (h:LiV w B b ql) (hB:B<=B'):LiV w B' b ql:=⟨Nat.lt_of_lt_of_le h.1 hB,h.2⟩
theorem LiV.set {w w':World} {B g b:Nat} {ql:List (Int×Int)} {cs:Array Value} {e:TypeId} {z:Nat×Nat} (h:LiV w B b ql) (hg:w.grownBy w' (some g)) (hc:w.heap[g]?=some (.cells cs e z)):LiV w' B b ql:=by
 obtain⟨h1,D,h2,h3⟩:=h
 refine⟨h1,D,h2.kept hg (fun e1=>?_),h3⟩
 obtain⟨es,clock,hm,-⟩:=h2
 rw[Option.some.inj e1,hc]at hm
 exact absurd hm (by simp)
end Go.Proofs.YtjcagkgpbcdghaaDoor.Poly
/- Polynomials at work: sums and products with great coefficients; how many entries there are. -/
namespace Go.Proofs.YtjcagkgpbcdghaaDoor.Poly
open Go.RowKit Go.Maps
set_option maxHeartbeats 4000000
set_option maxRecDepth 100000
theorem Jk8 {L:List (Lit×DataW Unit)} {x:Int} (h:∃ d,(Lit.int .i64 x,d)∈L):Maps.has (DataW.map L) (.int .i64 x)=true:=by
 rw[Maps.has_eq,List.any_eq_true]
 obtain⟨d,hd⟩:=h
 exact⟨_,hd,by simp[Lit.sameKey]⟩
theorem XZ7 {w:World} {b n K:Nat} {D:DataW Unit} (h:w.ownsMap Tryd.prog 3 (plainElem Tryd.prog 3) b n D) (hK:QX5 D (K:Int)):w.ownsMap Tryd.prog 3 (plainElem Tryd.prog 3) b (2*K+1) D:=by
 obtain⟨es,clock,h1,h2,h3,h4⟩:=h
 refine⟨es,clock,h1,h2,?_,h4⟩
 have hp:=fit_apart law3 h2
 have hks:=fit_keys h2
 have hl0:es.size=(es.toList.map (WideElems.rg (H:=Unit) Tryd.prog 3 (plainElem Tryd.prog 3))).length:=by simp
 rw[hl0]
 generalize es.toList.map (WideElems.rg (H:=Unit) Tryd.prog 3 (plainElem Tryd.prog 3))=L at*
 have hk:∀ p∈L,∃ x:Int,p.1=.int .i64 x /\ -(K:Int)<=x/\x<=K:=by
  intro p hp
  obtain⟨v,hv⟩:=hks p hp
  obtain⟨x,-,e,-⟩:=Maps.keyOf_int_inv Tryd.underlying3 hv
  refine⟨x,e,hK x ?_⟩
  rw[h4]
  refine Jk8 ⟨p.2,mem_sorted.2 ?_⟩
  rw[<-e];exact hp
 have hl := Xv9 K (L.map fun p => match p.1 with | .int _ x => x | _ => 0) (by
  rw[List.pairwise_map]
  refine List.Pairwise.imp_of_mem ?_ hp
  intro a c ha hc hac e
  obtain⟨x,e1,-⟩:=hk a ha
  obtain⟨y,e2,-⟩:=hk c hc
  rw[e1,e2]at e
  exact hac (by rw[e1,e2];exact congrArg _ e)) (fun x hx=>by
  obtain⟨p,hp,rfl⟩:=List.mem_map.1 hx
  obtain⟨y,e1,e2⟩:=hk p hp
  rw[e1];exact e2)
 simpa using hl
theorem JQ4 {c g:Int} {K Hp Hq:Nat} (hH:(2*K+1)*(Hp*Hq)<=4000000000000000000) (h0:c.natAbs<=Hp) (h1:g.natAbs<=Hq) : -4000000000000000000<=c*g/\c*g<=4000000000000000000:=by
 have e1:(c*g).natAbs<=Hp*Hq:=by
  rw[Int.natAbs_mul]
  exact Nat.mul_le_mul h0 h1
 have e2:Hp*Hq<=(2*K+1)*(Hp*Hq):=Nat.le_mul_of_pos_left _ (by omega)
 omega
theorem KQ9 (a:List (Int×Int)) (g:Int->Int) (y:Int) {Hp Hq:Nat} (ha:∀ t∈a,t.2.natAbs<=Hp) (hg:∀ x,(g x).natAbs<=Hq):(QQ5 a g y).natAbs<=a.length*(Hp*Hq):=by
 induction a with
 |nil=>simp[QQ5]
 |cons t a ih=>
  have h1:=ih (fun s hs=>ha s (List.mem_cons_of_mem _ hs))
  have h4:(t.2*g (y-t.1)).natAbs<=Hp*Hq:=by
   rw[Int.natAbs_mul]
   exact Nat.mul_le_mul (ha t List.mem_cons_self) (hg _)
  have h5:=Int.natAbs_add_le (t.2*g (y-t.1)) (QQ5 a g y)
  show(t.2*g (y-t.1)+QQ5 a g y).natAbs<=(a.length+1)*(Hp*Hq)
  rw[Nat.succ_mul]
  omega
theorem KQ8 (a : List (Int × Int)) (g : Int → Int) (y : Int) {K Hp Hq : Nat} (hl : a.length ≤ 2 * K + 1) (hH : (2 * K + 1) * (Hp * Hq) ≤ 4000000000000000000) (ha : ∀ t ∈ a, t.2.natAbs ≤ Hp) (hg : ∀ x, (g x).natAbs ≤ Hq) :
    -4000000000000000000<=QQ5 a g y/\QQ5 a g y<=4000000000000000000:=by
 have h1:=KQ9 a g y ha hg
 have h2:a.length*(Hp*Hq)<=(2*K+1)*(Hp*Hq):=Nat.mul_le_mul_right _ hl
 omega
theorem Kq3 {D:DataW Unit} {left:Lit->Bool} {acc:List (Int×Int)} {H:Nat} (h:Coll D left acc) (hb:∀ x,(coefOf D x).natAbs<=H):∀ t∈acc,t.2.natAbs<=H:=by
 intro t ht
 have:=(h.mem t.1 t.2).1 ht
 rw[<-this.2.1]
 exact hb t.1
theorem Jq9 (bp np bq nq K : Nat) (Dp Dq : DataW Unit) (w : World) (hp : w.ownsMap Tryd.prog 3 (plainElem Tryd.prog 3) bp np Dp) (hq : w.ownsMap Tryd.prog 3 (plainElem Tryd.prog 3) bq nq Dq) (hnp : np ≤ 10000000000000000) (hnq : nq ≤ 10000000000000000) (hK : K ≤ 900)
    (hkp:QX5 Dp (K:Int)) (hkq:QX5 Dq (K:Int)) (hbp:∀ x,-1000000000000000000<=coefOf Dp x/\coefOf Dp x<=1000000000000000000) (hbq:∀ x,-1000000000000000000<=coefOf Dq x/\coefOf Dq x<=1000000000000000000):
    Calls Tryd.prog 55 #[.map (some bp),.map (some bq)] w fun e w'=>∃ D:DataW Unit,e=.returned (.map (some w.heap.size))/\w'.ownsMap Tryd.prog 3 (plainElem Tryd.prog 3) w.heap.size (np+nq) D/\(∀ x,coefOf D x=coefOf Dp x+coefOf Dq x)/\QX5 D (K:Int)/\Below w.heap.size w w':=by
 have hmm:=fun n=>Xf0 n
 have hlp:=hp.lt
 have hlq:=hq.lt
 have hsp:=size_le hp
 have hsq:=size_le hq
 have HKP:Hid (QX5 Dp (K:Int)):=hkp
 have HKQ:Hid (QX5 Dq (K:Int)):=hkq
 have HBP:Hid _:=hbp
 have HBQ:Hid _:=hbq
 clear hkp hkq hbp hbq
 have e1:(w.alloc (.map #[] 0)).heap.size=w.heap.size+1:=by simp
 go_enter Tryd.func55,Tryd.ntmps55
 go_wp2_with (first
  |(at_len;refine wpList_len_own _ rfl _ 50 rfl 3 3 Tryd.underlying50 _ bp np _ rfl hp ?_)
  |(at_len;refine wpList_len_own _ rfl _ 50 rfl 3 3 Tryd.underlying50 _ bq nq _ rfl hq ?_)
  |(at_range;refine wpList_range_own _ rfl _ 50 rfl 3 3 law3 Tryd.underlying50 _ bp np _ rfl (hp.alloc _) ?_;intro w0 hrg0 hg0 hs0))
 go_frame
 rw[e1]at hrg0 hs0 ⊢
 go_loopw [6, 7] (fun _ _ wr => ∃ (left : Lit → Bool) (cnt k : Nat) (D : DataW Unit), wr.ranges Tryd.prog 3 (plainElem Tryd.prog 3) bp (w.heap.size + 1) np Dp left cnt ∧ k + cnt ≤ np ∧
     wr.ownsMap Tryd.prog 3 (plainElem Tryd.prog 3) w.heap.size k D/\Hid (∀ x,coefOf D x=part left (coefOf Dp) x)/\Hid (QX5 D (K:Int))/\Below w.heap.size w wr)
  (fun _ _ wr=>wr.rangeLeft bp (w.heap.size+1))
 case atStart=>
  exact⟨_,_,0,.map [],hrg0,by omega,(World.ownsMap_made _ _ _ _).kept hg0 (by simp),fun x=>by rw[QB5];exact coefOf_none rfl,(fun x hx=>by cases hx),((Below.refl _ _).alloc (Nat.le_refl _) _).grown hg0 (by simp) (fun j hj=>by cases hj)⟩
 case round=>
  clear hrg0 hg0 hs0
  rename World=>W1
  obtain⟨left,cnt,k,D,hrg,hcs,hout,hD,hKD,hnx⟩:=hrel
  go_wp2_with (first
   |(at_next;refine wpList_next_ranges_ii _ rfl _ rfl 3 3 .i64 .i64 law3 Tryd.underlying3 Tryd.underlying3 bp (w.heap.size+1) np _ _ _ rfl hrg ?_ ?_)
   |go_in)
  · intro hc0 hl0
    have hD2:Hid (∀ x,coefOf D x=coefOf Dp x):=fun x=>by rw[hD.out,QA3 hl0]
    have hq2:=Qh8 hq hnx hlq
    have hlr:=hq2.lt
    have hsz:=hnx.size
    have hol:=hout.lt
    clear hD hc0 hl0
    go_wp2_with (first
     |(at_range;refine wpList_range_own _ rfl _ 50 rfl 3 3 law3 Tryd.underlying50 _ bq nq _ rfl hq2 ?_;intro w2 hrg2 hg2 hs2))
    go_frame
    go_loopw [8, 9] (fun _ _ ws => ∃ (left : Lit → Bool) (cnt k : Nat) (D : DataW Unit), ws.ranges Tryd.prog 3 (plainElem Tryd.prog 3) bq W1.heap.size nq Dq left cnt ∧ k + cnt ≤ np + nq ∧
        ws.ownsMap Tryd.prog 3 (plainElem Tryd.prog 3) w.heap.size k D/\Hid (∀ x,coefOf D x=coefOf Dp x+part left (coefOf Dq) x)/\Hid (QX5 D (K:Int))/\Below w.heap.size w ws)
     (fun _ _ ws=>ws.rangeLeft bq W1.heap.size)
    case atStart=>
     exact⟨_,_,k,D,hrg2,by omega,hout.kept hg2 (by simp),fun x=>by rw[QB5,hD2.out];omega,hKD.out,hnx.grown hg2 hsz (fun j hj=>by cases hj)⟩
    case round=>
     clear hrg2 hg2 hs2 hout hnx hrg hKD
     obtain⟨left,cnt,k,D,hrg,hcs,hout,hD,hKD,hnx⟩:=hrel
     go_wp2_with (first
      |(at_next;refine wpList_next_ranges_ii _ rfl _ rfl 3 3 .i64 .i64 law3 Tryd.underlying3 Tryd.underlying3 bq W1.heap.size nq _ _ _ rfl hrg ?_ ?_)
      |go_in)
     · intro hc0 hl0
       go_wp2
       go_ret
       exact⟨D,rfl,hout.mono (by omega),fun x=>by rw[hD.out,QA3 hl0],hKD.out,hnx⟩
     · intro x c w1 cnt1 hwx hwc hlx hat hrg1 hlt hg1 hs1 hen
       have hout1:=hout.kept hg1 (by intro e;have:=Option.some.inj e;omega)
       have hnx1:Below w.heap.size w w1:=hnx.grown hg1 hnx.size (fun j hj=>by cases hj;exact hsz)
       have hx:=HKQ.out x (XQ1 hat)
       have hcq:=HBQ.out x
       have hcp:=HBP.out x
       rw[coefOf_at hat]at hcq
       have HX:Hid (coefOf Dq x=c/\coefOf D x=coefOf Dp x):=⟨coefOf_at hat,by rw[hD.out,XQ7 hlx];omega⟩
       have HL:Hid _:=hlx
       have hdm:=hout.isMap
       clear hat hlx
       go_wp2_with (first
        |(at_lookup;refine wpList_lookup_own_int _ rfl _ _ 50 rfl 3 3 .i64 law3 Tryd.underlying50 Tryd.underlying3 (zero3 _) w.heap.size k _ rfl hout1 _ _ rfl (keyOf_int_mk Tryd.underlying3 (WalkArith.wf_i64 (by omega))) ?_;intro c' hat hwc;refine Hid.out ?_))
       refine Lib.hid ?_
       have hc':coefOf D x=c':=coefOf_look hat
       have hbd : -1000000000000000000<=c'/\c'<=1000000000000000000:=by rw[<-hc',HX.out.2];exact hcp
       have HC':Hid (coefOf D x=c'):=hc'
       clear hat hwc hc'
       go_wp2_with (first
        |(at_mapUpdate;refine wpList_mapUpdate_own _ rfl _ _ _ 50 rfl 3 3 law3 Tryd.underlying50 _ w.heap.size k _ rfl hout1 (by unfold maxLen;omega) _ _ _ rfl rfl (keyOf_int_mk Tryd.underlying3 (WalkArith.wf_i64 (by omega))) _ [] (plainElem_int Tryd.underlying3 (WalkArith.wf_i64 (by omega))) ?_;intro w3 hown3 hg3;go_frame))
       have hrg3:=hrg1.kept hg3 (fun e=>by have:=Option.some.inj e;omega) (fun e=>by have:=Option.some.inj e;omega)
       go_roundw
       case rel=>
        refine⟨_,cnt1,k+1,_,hrg3,by omega,hown3,fun y=>?_,QW1 hKD.out hx.1 hx.2 _,hnx1.grown hg3 hnx1.size (fun j hj=>by cases hj;exact Nat.le_refl _)⟩
        rw[coefOf_put hdm,QB9]
        by_cases hxy:x=y
        · rw[if_pos hxy,if_pos hxy,<-HC'.out,HX.out.1,HX.out.2,hxy]
        · rw[if_neg hxy,if_neg hxy,hD.out]
       case measure=>rw[hrg3.left_eq,hrg.left_eq];exact hlt
  · intro x c w1 cnt1 hwx hwc hlx hat hrg1 hlt hg1 hs1 hen
    have hout1:=hout.kept hg1 (by simp)
    have hnx1:Below w.heap.size w w1:=hnx.grown hg1 hnx.size (fun j hj=>by cases hj;omega)
    have hx:=HKP.out x (XQ1 hat)
    have HX:Hid (coefOf Dp x=c):=coefOf_at hat
    have HL:Hid _:=hlx
    have hdm:=hout.isMap
    clear hat hlx
    go_wp2_with (first
     |(at_mapUpdate;refine wpList_mapUpdate_own _ rfl _ _ _ 50 rfl 3 3 law3 Tryd.underlying50 _ w.heap.size k _ rfl hout1 (by unfold maxLen;omega) _ _ _ rfl rfl (keyOf_int_mk Tryd.underlying3 hwx) _ [] (plainElem_int Tryd.underlying3 hwc) ?_;intro w2 hout2 hg2;go_frame))
    have hrg2:=hrg1.kept hg2 (fun e=>by have:=Option.some.inj e;omega) (fun e=>by have:=Option.some.inj e;omega)
    go_roundw
    case rel=>
     refine⟨_,cnt1,k+1,_,hrg2,by omega,hout2,fun y=>?_,QW1 hKD.out hx.1 hx.2 _,hnx1.grown hg2 hnx1.size (fun j hj=>by cases hj;exact Nat.le_refl _)⟩
     rw[coefOf_put hdm,QB9]
     by_cases hxy:x=y
     · rw[if_pos hxy,if_pos hxy,HX.out]
     · rw[if_neg hxy,if_neg hxy,hD.out]
    case measure=>rw[hrg2.left_eq,hrg.left_eq];exact hlt
theorem JB9 (bp np bq nq K J Hp Hq : Nat) (Dp Dq : DataW Unit) (w : World) (hp : w.ownsMap Tryd.prog 3 (plainElem Tryd.prog 3) bp np Dp) (hq : w.ownsMap Tryd.prog 3 (plainElem Tryd.prog 3) bq nq Dq) (hnp : np ≤ 1000000) (hnq : nq ≤ 1000) (hK : K + J ≤ 900) (hH : (2 * K + 1) * (Hp * Hq) ≤ 4000000000000000000)
    (hkp:QX5 Dp (K:Int)) (hkq:QX5 Dq (J:Int)) (hbp:∀ x,(coefOf Dp x).natAbs<=Hp) (hbq:∀ x,(coefOf Dq x).natAbs<=Hq):
    Calls Tryd.prog 17 #[.map (some bp),.map (some bq)] w fun e w'=>∃ (D:DataW Unit) (acc:List (Int×Int)),e=.returned (.map (some w.heap.size))/\w'.ownsMap Tryd.prog 3 (plainElem Tryd.prog 3) w.heap.size (1000*np) D/\QX5 D ((K:Int)+J)/\(∀ y,coefOf D y=QQ5 acc (coefOf Dq) y)/\
     (∀ x c,(x,c)∈acc↔(coefOf Dp x=c/\c≠0))/\acc.Pairwise (fun a b=>a.1≠b.1)/\Below w.heap.size w w':=by
 have hmm:=@run_makeMap Tryd.prog
 have hlp:=hp.lt
 have hlq:=hq.lt
 have hsp:=size_le hp
 have hsq:=size_le hq
 have HKP:Hid (QX5 Dp (K:Int)):=hkp
 have HKQ:Hid (QX5 Dq (J:Int)):=hkq
 have HBP:Hid _:=hbp
 have HBQ:Hid _:=hbq
 have HHH:Hid _:=hH
 clear hkp hkq hbp hbq hH
 have e1:(w.alloc (.map #[] 0)).heap.size=w.heap.size+1:=by simp
 go_enter Tryd.func17,Tryd.ntmps17
 go_wp2_with (first
  |(at_range;refine wpList_range_own _ rfl _ 50 rfl 3 3 law3 Tryd.underlying50 _ bp np _ rfl (hp.alloc _) ?_;intro w0 hrg0 hg0 hs0))
 go_frame
 rw[e1]at hrg0 hs0 ⊢
 go_loopw [6, 7, 8, 9] (fun _ _ _ _ wr => ∃ (left : Lit → Bool) (cnt k j : Nat) (D : DataW Unit) (acc : List (Int × Int)), wr.ranges Tryd.prog 3 (plainElem Tryd.prog 3) bp (w.heap.size + 1) np Dp left cnt ∧ j + cnt ≤ np ∧ k ≤ 1000 * j ∧
     wr.ownsMap Tryd.prog 3 (plainElem Tryd.prog 3) w.heap.size k D/\Hid (Coll Dp left acc)/\Hid (∀ y,coefOf D y=QQ5 acc (coefOf Dq) y)/\Hid (QX5 D ((K:Int)+J))/\Below w.heap.size w wr)
  (fun _ _ _ _ wr=>wr.rangeLeft bp (w.heap.size+1))
 case atStart=>
  exact⟨_,_,0,0,.map [],[],hrg0,by omega,by omega,(World.ownsMap_made _ _ _ _).kept hg0 (by simp),Qx3 Dp,fun y=>coefOf_none rfl,(fun x hx=>by cases hx),((Below.refl _ _).alloc (Nat.le_refl _) _).grown hg0 (by simp) (fun j hj=>by cases hj)⟩
 case round=>
  clear hrg0 hg0 hs0
  rename World=>W1
  obtain⟨left,cnt,k,j,D,acc,hrg,hcs,hkj,hout,hC,hD,hKD,hnx⟩:=hrel
  go_wp2_with (first
   |(at_next;refine wpList_next_ranges_ii _ rfl _ rfl 3 3 .i64 .i64 law3 Tryd.underlying3 Tryd.underlying3 bp (w.heap.size+1) np _ _ _ rfl hrg ?_ ?_)
   |go_in)
  · intro hc0 hl0
    go_wp2
    go_ret
    exact⟨D,acc,rfl,hout.mono (by omega),hKD.out,hD.out,fun x c=>by rw[hC.out.mem];simp[hl0],hC.out.once,hnx⟩
  · intro x c w1 cnt1 hwx hwc hlx hat hrg1 hlt hg1 hs1 hen
    have hx:=HKP.out x (XQ1 hat)
    have hcp:=HBP.out x
    rw[coefOf_at hat]at hcp
    have hout1:=hout.kept hg1 (by simp)
    have hnx1:Below w.heap.size w w1:=hnx.grown hg1 hnx.size (fun j hj=>by cases hj;omega)
    have hq1:=Qh8 hq hnx1 hlq
    have hsz1:=hnx1.size
    have hHB:Hid (∀ y,-4000000000000000000<=QQ5 acc (coefOf Dq) y/\QQ5 acc (coefOf Dq) y<=4000000000000000000):=fun y=>KQ8 acc (coefOf Dq) y (Xw3 hC.out K HKP.out) HHH.out (Kq3 hC.out HBP.out) HBQ.out
    have HAT:Hid _:=hat
    have HL:Hid _:=hlx
    have hr1:w.heap.size+1<w1.heap.size:=hrg1.lt
    clear hat hlx hs1 hout hnx
    go_wp2_with (first
     |(at_range;refine wpList_range_own _ rfl _ 50 rfl 3 3 law3 Tryd.underlying50 _ bq nq _ rfl hq1 ?_;intro w2 hrg2 hg2 hs2))
    go_frame
    go_loopw [8, 9] (fun _ _ ws => ∃ (left2 : Lit → Bool) (cnt2 k2 : Nat) (D2 : DataW Unit), ws.ranges Tryd.prog 3 (plainElem Tryd.prog 3) bq w1.heap.size nq Dq left2 cnt2 ∧ k2 + cnt2 ≤ k + nq ∧
        ws.ranges Tryd.prog 3 (plainElem Tryd.prog 3) bp (w.heap.size+1) np Dp (fun z=>left z&&!z.sameKey (.int .i64 x)) cnt1/\
        ws.ownsMap Tryd.prog 3 (plainElem Tryd.prog 3) w.heap.size k2 D2/\Hid (∀ y,coefOf D2 y=QQ5 acc (coefOf Dq) y+part left2 (fun z=>c*coefOf Dq z) (y-x))/\Hid (QX5 D2 ((K:Int)+J))/\Below w.heap.size w ws)
     (fun _ _ ws=>ws.rangeLeft bq w1.heap.size)
    case atStart=>
     exact ⟨_, _, k, D, hrg2, by omega, hrg1.kept hg2 (by simp) (by simp), hout1.kept hg2 (by simp), fun y => by
      have:part (Maps.has Dq) (fun z=>c*coefOf Dq z) (y-x)=0:=by
       unfold part
       split
       · rfl
       · rename_i h
         show c*coefOf Dq (y-x)=0
         rw[coefOf_none (by simpa using h)];simp
      rw[this,hD.out];omega,hKD.out,hnx1.grown hg2 hsz1 (fun j hj=>by cases hj)⟩
    case round=>
     clear hrg2 hg2 hs2 hrg1 hg1 hen hout1 hnx1 hq1
     obtain⟨left2,cnt2,k2,D2,hrq,hcs2,hrp,hout,hD2,hKD2,hnx⟩:=hrel
     go_wp2_with (first
      |(at_next;refine wpList_next_ranges_ii _ rfl _ rfl 3 3 .i64 .i64 law3 Tryd.underlying3 Tryd.underlying3 bq w1.heap.size nq _ _ _ rfl hrq ?_ ?_)
      |go_in)
     · intro hc0 hl0
       go_wp2
       go_roundw
       case rel=>
        have hfin:∀ y,coefOf D2 y=QQ5 acc (coefOf Dq) y+c*coefOf Dq (y-x):=fun y=>by rw[hD2.out,QA3 hl0]
        by_cases hcz:c=0
        · subst hcz
          exact⟨_,cnt1,k2,j+1,D2,acc,hrp,by omega,by omega,hout,Qu3 hC.out HAT.out,fun y=>by rw[hfin];simp,hKD2.out,hnx⟩
        · refine⟨_,cnt1,k2,j+1,D2,acc++[(x,c)],hrp,by omega,by omega,hout,Qu4 hC.out HL.out hcz HAT.out,fun y=>?_,hKD2.out,hnx⟩
          rw[hfin,Qq2]
          simp[QQ5]
       case measure=>rw[hrp.left_eq,hrg.left_eq];exact hlt
     · intro x2 c2 w3 cnt3 hwx2 hwc2 hlx2 hat2 hrq3 hlt3 hg3 hs3 hen3
       have hx2:=HKQ.out x2 (XQ1 hat2)
       have hcq:=HBQ.out x2
       rw[coefOf_at hat2]at hcq
       have hmul:=JQ4 HHH.out hcp hcq
       have hne1:w.heap.size≠w1.heap.size:=by omega
       have hout3:=hout.kept hg3 (by intro e;exact hne1 (Option.some.inj e))
       have hrp3:=hrp.kept hg3 (by intro e;have:=Option.some.inj e;omega) (by intro e;have:=Option.some.inj e;omega)
       have hnx3:Below w.heap.size w w3:=hnx.grown hg3 hnx.size (fun j hj=>by cases hj;exact hsz1)
       have HX : Hid (coefOf Dq x2 = c2 ∧ coefOf D2 (x + x2) = QQ5 acc (coefOf Dq) (x + x2)) := ⟨coefOf_at hat2, by
        rw[hD2.out,show x+x2-x=x2 by omega,XQ7 hlx2];omega⟩
       have hbd0:=hHB.out (x+x2)
       have hdm:=hout.isMap
       have HH2:Hid _:=hlx2
       clear hat2 hlx2 hs3
       go_wp2_with (first
        |(at_lookup;refine wpList_lookup_own_int _ rfl _ _ 50 rfl 3 3 .i64 law3 Tryd.underlying50 Tryd.underlying3 (zero3 _) w.heap.size k2 _ rfl hout3 _ _ rfl (keyOf_int_mk Tryd.underlying3 (WalkArith.wf_i64 (by omega))) ?_;intro c' hat hwc;refine Hid.out ?_))
       refine Lib.hid ?_
       have hc':coefOf D2 (x+x2)=c':=coefOf_look hat
       have hbd : -4000000000000000000<=c'/\c'<=4000000000000000000:=by rw[<-hc',HX.out.2];exact hbd0
       have HC':Hid (coefOf D2 (x+x2)=c'):=hc'
       clear hat hwc hc' hbd0
       go_wp2_with (first
        |(at_mapUpdate;refine wpList_mapUpdate_own _ rfl _ _ _ 50 rfl 3 3 law3 Tryd.underlying50 _ w.heap.size k2 _ rfl hout3 (by unfold maxLen;omega) _ _ _ rfl rfl (keyOf_int_mk Tryd.underlying3 (WalkArith.wf_i64 (by omega))) _ [] (plainElem_int Tryd.underlying3 (WalkArith.wf_i64 (by omega))) ?_;intro w4 hown4 hg4;go_frame))
       have hrq4:=hrq3.kept hg4 (fun e=>by have:=Option.some.inj e;omega) (fun e=>by have:=Option.some.inj e;omega)
       have hrp4:=hrp3.kept hg4 (fun e=>by have:=Option.some.inj e;omega) (fun e=>by have:=Option.some.inj e;omega)
       go_roundw
       case rel=>
        refine⟨_,cnt3,k2+1,_,hrq4,by omega,hrp4,hown4,fun y=>?_,QW1 hKD2.out (by omega) (by omega) _,hnx3.grown hg4 hnx3.size (fun j hj=>by cases hj;exact Nat.le_refl _)⟩
        rw[coefOf_put hdm,QB9]
        by_cases hxy:x+x2=y
        · have hyx:x2=y-x:=by omega
          rw[if_pos hxy,if_pos hyx,<-HC'.out,HX.out.2,HX.out.1,hxy]
        · have hyx:¬ x2=y-x:=by omega
          rw[if_neg hxy,if_neg hyx,hD2.out]
       case measure=>rw[hrq4.left_eq,hrq.left_eq];exact hlt3
theorem KX4 (bq nq K : Nat) (Dq : DataW Unit) (w : World) (hq : w.ownsMap Tryd.prog 3 (plainElem Tryd.prog 3) bq nq Dq) (hnq : nq ≤ 10000000000000000) (hK : K ≤ 900)
    (hkq:QX5 Dq (K:Int)) (hbq:∀ x,-1000000000000000000<=coefOf Dq x/\coefOf Dq x<=1000000000000000000):
    Calls Tryd.prog 55 #[.map none,.map (some bq)] w fun e w'=>∃ D:DataW Unit,e=.returned (.map (some w.heap.size))/\w'.ownsMap Tryd.prog 3 (plainElem Tryd.prog 3) w.heap.size nq D/\(∀ x,coefOf D x=coefOf Dq x)/\QX5 D (K:Int)/\Below w.heap.size w w':=by
 have hmm:=fun n=>Xf0 n
 have hlq:=hq.lt
 have hsq:=size_le hq
 have HKQ:Hid (QX5 Dq (K:Int)):=hkq
 have HBQ:Hid _:=hbq
 have hln:=Maps.len_nil (P:=Tryd.prog) (w:=w) Tryd.underlying50
 have hrn:=fun w=>run_range_nilMap (P:=Tryd.prog) w 50 3 3 Tryd.underlying50
 obtain⟨Z,hZ⟩:∃ Z,Z=(w.alloc (.map #[] 0)).alloc (.mapIter none 0 #[] 0):=⟨_,rfl⟩
 have HZ:Hid (Z=(w.alloc (.map #[] 0)).alloc (.mapIter none 0 #[] 0)):=hZ
 have hnx:∀ ty,(Instr.next (.pointer (some ⟨w.heap.size+1,0,none⟩)) false ty).run Tryd.prog Z=.ok (.tuple #[.bool false]) Z:=fun ty=>by
  have h:=run_next_nilMap (P:=Tryd.prog) (w.alloc (.map #[] 0)) ty 0 0 #[]
  rw[hZ]
  rw[show(w.alloc (.map #[] 0)).heap.size=w.heap.size+1 by simp]at h
  exact h
 have HOW:Hid (Z.ownsMap Tryd.prog 3 (plainElem Tryd.prog 3) w.heap.size 0 (.map []:DataW Unit)):=(by rw[hZ];exact(World.ownsMap_made _ _ _ _).alloc _:Z.ownsMap Tryd.prog 3 (plainElem Tryd.prog 3) w.heap.size 0 (.map []:DataW Unit))
 have HBZ:Hid (Below w.heap.size w Z):=(by rw[hZ];exact((Below.refl _ _).alloc (Nat.le_refl _) _).alloc (by simp) _:Below w.heap.size w Z)
 have HQZ:Hid (Z.ownsMap Tryd.prog 3 (plainElem Tryd.prog 3) bq nq Dq):=Qh8 hq HBZ.out hlq
 clear hZ hkq hbq
 go_enter Tryd.func55,Tryd.ntmps55
 go_wp2_with (first
  |(at_len;refine wpList_len_own _ rfl _ 50 rfl 3 3 Tryd.underlying50 _ bq nq _ rfl hq ?_))
 rw[<-HZ.out]
 go_loopw [6,7] (fun _ _ wr=>Hid (wr=Z)) (fun _ _ _=>0)
 case atStart=>exact(rfl:Z=Z)
 case round=>
  obtain rfl:=hrel.out
  have hsz:=HBZ.out.size
  have hol:=HOW.out.lt
  have hqz:=HQZ.out
  have hout:=HOW.out
  rename World=>W1
  go_wp2_with (first
      |(at_range;refine wpList_range_own _ rfl _ 50 rfl 3 3 law3 Tryd.underlying50 _ bq nq _ rfl hqz ?_;intro w2 hrg2 hg2 hs2))
  try go_frame
  go_loopw [8, 9] (fun _ _ ws => ∃ (left : Lit → Bool) (cnt k : Nat) (D : DataW Unit), ws.ranges Tryd.prog 3 (plainElem Tryd.prog 3) bq W1.heap.size nq Dq left cnt ∧ k + cnt ≤ nq ∧
        ws.ownsMap Tryd.prog 3 (plainElem Tryd.prog 3) w.heap.size k D/\Hid (∀ x,coefOf D x=part left (coefOf Dq) x)/\Hid (QX5 D (K:Int))/\Below w.heap.size w ws)
      (fun _ _ ws=>ws.rangeLeft bq W1.heap.size)
  case atStart=>
   exact⟨_,_,0,.map [],hrg2,by omega,hout.kept hg2 (by simp),fun x=>by rw[QB5];exact coefOf_none rfl,(fun x hx=>by cases hx),HBZ.out.grown hg2 hsz (fun j hj=>by cases hj)⟩
  case round=>
   clear hrg2 hg2 hs2 hout
   obtain⟨left,cnt,k,D,hrg,hcs,hout,hD,hKD,hnx⟩:=hrel
   go_wp2_with (first
    |(at_next;refine wpList_next_ranges_ii _ rfl _ rfl 3 3 .i64 .i64 law3 Tryd.underlying3 Tryd.underlying3 bq W1.heap.size nq _ _ _ rfl hrg ?_ ?_)
    |go_in)
   · intro hc0 hl0
     go_wp2
     go_ret
     exact⟨D,rfl,hout.mono (by omega),fun x=>by rw[hD.out,QA3 hl0],hKD.out,hnx⟩
   · intro x c w1 cnt1 hwx hwc hlx hat hrg1 hlt hg1 hs1 hen
     have hout1:=hout.kept hg1 (by intro e;have:=Option.some.inj e;omega)
     have hnx1:Below w.heap.size w w1:=hnx.grown hg1 hnx.size (fun j hj=>by cases hj;exact hsz)
     have hx:=HKQ.out x (XQ1 hat)
     have hcq:=HBQ.out x
     rw[coefOf_at hat]at hcq
     have HX:Hid (coefOf Dq x=c/\coefOf D x=0):=⟨coefOf_at hat,by rw[hD.out,XQ7 hlx]⟩
     have HL:Hid _:=hlx
     have hdm:=hout.isMap
     clear hat hlx
     go_wp2_with (first
      |(at_lookup;refine wpList_lookup_own_int _ rfl _ _ 50 rfl 3 3 .i64 law3 Tryd.underlying50 Tryd.underlying3 (zero3 _) w.heap.size k _ rfl hout1 _ _ rfl (keyOf_int_mk Tryd.underlying3 (WalkArith.wf_i64 (by omega))) ?_;intro c' hat hwc;refine Hid.out ?_))
     refine Lib.hid ?_
     have hc':coefOf D x=c':=coefOf_look hat
     have hbd : -1000000000000000000<=c'/\c'<=1000000000000000000:=by rw[<-hc',HX.out.2];omega
     have HC':Hid (coefOf D x=c'):=hc'
     clear hat hwc hc'
     go_wp2_with (first
      |(at_mapUpdate;refine wpList_mapUpdate_own _ rfl _ _ _ 50 rfl 3 3 law3 Tryd.underlying50 _ w.heap.size k _ rfl hout1 (by unfold maxLen;omega) _ _ _ rfl rfl (keyOf_int_mk Tryd.underlying3 (WalkArith.wf_i64 (by omega))) _ [] (plainElem_int Tryd.underlying3 (WalkArith.wf_i64 (by omega))) ?_;intro w3 hown3 hg3;go_frame))
     have hrg3:=hrg1.kept hg3 (fun e=>by have:=Option.some.inj e;omega) (fun e=>by have:=Option.some.inj e;omega)
     go_roundw
     case rel=>
      refine⟨_,cnt1,k+1,_,hrg3,by omega,hown3,fun y=>?_,QW1 hKD.out hx.1 hx.2 _,hnx1.grown hg3 hnx1.size (fun j hj=>by cases hj;exact Nat.le_refl _)⟩
      rw[coefOf_put hdm,QB9]
      by_cases hxy:x=y
      · rw[if_pos hxy,if_pos hxy,<-HC'.out,HX.out.1,HX.out.2];omega
      · rw[if_neg hxy,if_neg hxy,hD.out]
     case measure=>rw[hrg3.left_eq,hrg.left_eq];exact hlt
theorem QA2 (v u : Value) (n m K : Nat) (f g : Int → Int) (w : World) (hn : n ≤ 10000) (hm : m ≤ 10000) (hK : K ≤ 900) (hf : ∀ y, (f y).natAbs ≤ 1000000000000000000) (hg : ∀ y, (g y).natAbs ≤ 1000000000000000000) (h : WkV w w.heap.size v n K f) (h2 : WkV w w.heap.size u m K g) (hu : u ≠ .map none) :
    Calls Tryd.prog 55 #[v,u] w fun e w'=>e=.returned (.map (some w.heap.size))/\WkV w' w'.heap.size (.map (some w.heap.size)) (2*K+1) K (fun y=>f y+g y)/\Below w.heap.size w w':=by
 rcases h2 with⟨rfl,-⟩|⟨bq,Dq,rfl,hlq,hoq,hkq,hcq⟩
 · exact absurd rfl hu
 rcases h with⟨rfl,h0⟩|⟨bp,Dp,rfl,hlt,ho,hk,hc⟩
 · refine(KX4 bq m K Dq w hoq (by omega) hK hkq (fun x=>by rw[hcq];have:=hg x;omega)).mono ?_
   rintro e w' ⟨D,h1,h3,h4,h5,h6⟩
   have hl:=h3.lt
   exact⟨h1,Or.inr ⟨_,D,rfl,hl,XZ7 h3 h5,h5,fun y=>by show _=f y+g y;rw[h4,hcq,h0];omega⟩,h6⟩
 · refine(Jq9 bp n bq m K Dp Dq w ho hoq (by omega) (by omega) hK hk hkq (fun x=>by rw[hc];have:=hf x;omega) (fun x=>by rw[hcq];have:=hg x;omega)).mono ?_
   rintro e w' ⟨D,h1,h3,h4,h5,h6⟩
   have hl:=h3.lt
   exact⟨h1,Or.inr ⟨_,D,rfl,hl,XZ7 h3 h5,h5,fun y=>by rw[h4,hcq,hc]⟩,h6⟩
theorem QY7 (v u : Value) (n m K J Hp Hq : Nat) (ql : List (Int × Int)) (f g : Int → Int) (w : World) (hn : n ≤ 1000000) (hm : m ≤ 1000) (hK : K + J ≤ 900) (hH : (2 * K + 1) * (Hp * Hq) ≤ 4000000000000000000) (hf : ∀ y, (f y).natAbs ≤ Hp) (hg : ∀ y, (g y).natAbs ≤ Hq) (h : WkV w w.heap.size v n K f) (h2 : WkV w w.heap.size u m J g) (hu : u ≠ .map none) (hq : ∀ y, g y = coefL ql y) :
    Calls Tryd.prog 17 #[v,u] w fun e w'=>e=.returned (.map (some w.heap.size))/\WkV w' w'.heap.size (.map (some w.heap.size)) (2*(K+J)+1) (K+J) (QQ5 ql f)/\Below w.heap.size w w':=by
 rcases h2 with⟨rfl,-⟩|⟨bq,Dq,rfl,hlq,hoq,hkq,hcq⟩
 · exact absurd rfl hu
 rcases h with⟨rfl,h0⟩|⟨bp,Dp,rfl,hlt,ho,hk,hc⟩
 · refine(Zg7 _ w).mono fun e w' ⟨h1,h2,h3⟩=>⟨h1,Or.inr ⟨_,.map [],rfl,h2.lt,h2.mono (Nat.zero_le _),(fun x hx=>by cases hx),fun y=>?_⟩,h3⟩
   rw[coefOf_none rfl]
   have hz:∀ q:List (Int×Int),QQ5 q f y=0:=fun q=>by
    induction q with
    |nil=>rfl
    |cons t q ih=>
     show t.2*f (y-t.1)+QQ5 q f y=0
     rw[ih,h0]
     omega
   rw[hz]
 · refine(JB9 bp n bq m K J Hp Hq Dp Dq w ho hoq hn hm hK hH hk hkq (fun x=>by rw[hc];exact hf x) (fun x=>by rw[hcq];exact hg x)).mono ?_
   rintro e w' ⟨D,acc,h1,h2,h3,h4,h5,h6,h7⟩
   have hl:=h2.lt
   have h3':QX5 D ((K+J:Nat):Int):=fun x hx=>by have:=h3 x hx;omega
   refine⟨h1,Or.inr ⟨_,D,rfl,hl,XZ7 h2 h3',h3',fun y=>?_⟩,h7⟩
   rw[h4,XV1 acc _ _ (fun u=>(hcq u).trans (hq u)),ZG5,XV1 ql _ _ (fun u=>(Kq4 h5 h6 u).trans (hc u))]
end Go.Proofs.YtjcagkgpbcdghaaDoor.Poly
