/- Burau's tables: polynomials at work as values; the walks of terms.Work's methods at nil. -/
import Derived.Test.YtiliihlkpknhdaaDoorAD11P
import Derived.Laws.IdiomRangeMap
namespace Go.Proofs.YtiliihlkpknhdaaDoor.Poly
open Go.RowKit Go.Maps
set_option maxHeartbeats 4000000
set_option maxRecDepth 100000
theorem hid_mkP {P:Prop} (h:P):Hid P:=h
theorem times_nil (v : Value) (w : World) :
    Calls Tryd.prog 22 #[.map none,v] w fun e w'=>e=.returned (.map (some w.heap.size))/\w'.ownsMap Tryd.prog 3 (plainElem Tryd.prog 3) w.heap.size 0 (.map []:DataW Unit)/\Below w.heap.size w w':=by
 have hmm:=@run_makeMap Tryd.prog
 have hrn:=fun w=>run_range_nilMap (P:=Tryd.prog) w 60 3 3 Tryd.underlying60
 obtain⟨Z,hZ⟩:∃ Z,Z=(w.alloc (.map #[] 0)).alloc (.mapIter none 0 #[] 0):=⟨_,rfl⟩
 have HZ:Hid (Z=(w.alloc (.map #[] 0)).alloc (.mapIter none 0 #[] 0)):=hZ
 have hnx:∀ ty,(Instr.next (.pointer (some ⟨w.heap.size+1,0,none⟩)) false ty).run Tryd.prog Z=.ok (.tuple #[.bool false]) Z:=fun ty=>by
  have h:=run_next_nilMap (P:=Tryd.prog) (w.alloc (.map #[] 0)) ty 0 0 #[]
  rw[hZ]
  rw[show(w.alloc (.map #[] 0)).heap.size=w.heap.size+1 by simp]at h
  exact h
 have HOW:Hid (Z.ownsMap Tryd.prog 3 (plainElem Tryd.prog 3) w.heap.size 0 (.map []:DataW Unit)):=(by rw[hZ];exact(World.ownsMap_made _ _ _ _).alloc _:Z.ownsMap Tryd.prog 3 (plainElem Tryd.prog 3) w.heap.size 0 (.map []:DataW Unit))
 have HBZ:Hid (Below w.heap.size w Z):=(by rw[hZ];exact((Below.refl _ _).alloc (Nat.le_refl _) _).alloc (by simp) _:Below w.heap.size w Z)
 clear hZ
 go_enter Tryd.func22,Tryd.ntmps22
 go_wp2
 rw[<-HZ.out]
 go_loopw [13] (fun _ wr=>Hid (wr=Z)) (fun _ _=>0)
 case atStart=>exact(rfl:Z=Z)
 case round=>
  obtain rfl:=hrel.out
  go_wp2
  go_ret
  exact⟨rfl,HOW.out,HBZ.out⟩
theorem inForm_nil (w : World) :
    Calls Tryd.prog 29 #[.map none] w fun e w'=>e=.returned (.slice none 0 0)/\Below w.heap.size w w':=by
 have hrn:=fun w=>run_range_nilMap (P:=Tryd.prog) w 60 3 3 Tryd.underlying60
 obtain⟨Z,hZ⟩:∃ Z,Z=w.alloc (.mapIter none 0 #[] 0):=⟨_,rfl⟩
 have HZ:Hid (Z=w.alloc (.mapIter none 0 #[] 0)):=hZ
 have hnx:∀ ty,(Instr.next (.pointer (some ⟨w.heap.size,0,none⟩)) false ty).run Tryd.prog Z=.ok (.tuple #[.bool false]) Z:=fun ty=>by
  rw[hZ]
  exact run_next_nilMap (P:=Tryd.prog) w ty 0 0 #[]
 have HBZ:Hid (Below w.heap.size w Z):=(by rw[hZ];exact(Below.refl _ _).alloc (Nat.le_refl _) _:Below w.heap.size w Z)
 have hc:=sort_list Z.heap.size (.slice none 0 0) [] Z (by simp) (World.ownsRow_nil _ _ _ _)
 have HC:=hid_mkP (hc.mono (R':=fun e w'=>e=.returned (.tuple #[])/\Below w.heap.size w w') (fun e w' h=>⟨h.1,by obtain⟨-,l,-,-,-,hg⟩:=h;exact HBZ.out.grown hg HBZ.out.size (fun q hq=>by cases hq)⟩))
 clear hZ hc
 go_enter Tryd.func29,Tryd.ntmps29
 go_wp2
 rw[<-HZ.out]
 go_loopw [3] (fun v wr=>v=.slice none 0 0/\Hid (wr=Z)) (fun _ _=>0)
 case atStart=>exact⟨rfl,(rfl:Z=Z)⟩
 case round=>
  obtain⟨rfl,hwz⟩:=hrel
  obtain rfl:=hwz.out
  go_wp2_with (go_at_call 51;refine HC.out.mono ?_;rintro e9 w' ⟨rfl,hb9⟩)
  go_ret
  exact⟨rfl,hb9⟩
theorem inForm_keys (b n : Nat) (D : DataW Unit) (w : World) (hown : w.ownsMap Tryd.prog 3 (plainElem Tryd.prog 3) b n D) (hn : ∀ left acc, Coll D left acc → acc.length ≤ 1000000) :
    Calls Tryd.prog 29 #[.map (some b)] w fun e w'=>∃ v l,e=.returned v/\w'.ownsRow w.heap.size 40 2 v l.length (flat l)/\Canon l (coefOf D)/\Below w.heap.size w w':=by
 obtain⟨i0,hi,hz0,hz1,hz2⟩:=info_parts infoTerm
 have hbl:=hown.lt
 have HL:Hid (∀ left acc,Coll D left acc->acc.length<=1000000):=hn
 clear hn
 go_enter Tryd.func29,Tryd.ntmps29
 go_wp2_with (first|(at_range;refine wpList_range_own _ rfl _ 60 rfl 3 3 law3 Tryd.underlying60 _ b n _ rfl hown ?_;intro w0 hrg0 hg0 hs0)|go_in)
 go_frame
 go_loopw [3] (fun v wr => ∃ (left : Lit → Bool) (cnt : Nat) (acc : List (Int × Int)), wr.ranges Tryd.prog 3 (plainElem Tryd.prog 3) b w.heap.size n D left cnt ∧
     wr.ownsRow w.heap.size 40 2 v acc.length (flat acc)/\Hid (Coll D left acc)/\Below w.heap.size w wr)
  (fun _ wr=>wr.rangeLeft b w.heap.size)
 case atStart=>
  exact⟨_,_,[],hrg0,World.ownsRow_nil _ _ _ _,coll_start D,(Below.refl _ _).grown hg0 (Nat.le_refl _) (fun j hj=>by cases hj)⟩
 case round=>
  obtain⟨left,cnt,acc,hrg,hrow,hC,hnx⟩:=hrel
  have hal:=HL.out _ _ hC.out
  go_wp2_with (first
   |(at_next;refine wpList_next_ranges_ii _ rfl _ rfl 3 3 .i64 .i64 law3 Tryd.underlying3 Tryd.underlying3 b w.heap.size n _ _ _ rfl hrg ?_ ?_)
   |go_in)
  · intro hc0 hl0
    have hc:=sort_list w.heap.size _ acc _ (by omega) hrow
    go_wp2_with (go_at_call 51;refine hc.mono ?_;rintro e w' ⟨rfl,l,hp,hs,hrow2,hg2⟩)
    go_ret
    refine⟨_,l,rfl,hrow2,coll_end hC.out hl0 hp hs,hnx.grown hg2 hnx.size (fun k hk=>(hrow.lt k hk).1)⟩
  · intro x c w1 cnt1 hwx hwc hlx hat hrg1 hlt hg1 hs1 hen
    have hrow1:=hrow.kept hg1 (Or.inr (row_ne_iter hrow hrg).symm)
    have hnx1:Below w.heap.size w w1:=hnx.grown hg1 hnx.size (fun j hj=>by cases hj;exact Nat.le_refl _)
    have Hat:Hid _:=hat
    clear hs1 hat
    by_cases hc:c=0
    · subst hc
      go_wp2
      go_roundw
      case rel=>exact⟨_,cnt1,acc,hrg1,hrow1,coll_zero hC.out Hat.out,hnx1⟩
      case measure=>rw[hrg1.left_eq,hrg.left_eq];exact hlt
    · have hcb:(c != 0)=true:=by rw[bne_iff_ne];exact hc
      have HC0:Hid (c≠0):=hc
      have hsz1:=hnx1.size
      clear hc
      go_wp2_with (first
       |(at_builtin;refine wpList_append_own _ rfl _ _ 34 rfl w.heap.size 40 i0 (.agg #[.int .i64 0,.int .i64 0]) 2 16 Tryd.underlying34 hi hz0 hz1 hz2 rfl (by decide) _ _ _ rfl (hrow1.alloc _) ⟨w1.heap.size,0,none⟩ 1 1 [.int .i64 x,.int .i64 c] rfl rfl (new_cells _ _ _) (pair_one _ _) (by unfold maxLen;omega) (by omega) (by simp;omega) ?_;intro v' w3 hown' hg3 _;go_frame)
       |go_in)
      have hrg3:=(hrg1.alloc _).kept hg3 (row_ne_low hrow1 hbl) (row_ne_iter hrow1 hrg1)
      go_roundw
      case rel=>
       refine⟨_,cnt1,acc++[(x,c)],hrg3,?_,coll_more hC.out hlx HC0.out Hat.out,(hnx1.alloc hsz1 _).grown hg3 (by simp;omega) (fun j hj=>(hrow1.lt j hj).1)⟩
       rw[flat_append,List.length_append]
       exact hown'
      case measure=>rw[hrg3.left_eq,hrg.left_eq];exact hlt
def WkV (w:World) (B:Nat) (v:Value) (n K:Nat) (f:Int->Int):Prop:=
 (v=.map none/\∀ y,f y=0)∨∃ (b:Nat) (D:DataW Unit),v=.map (some b)/\b<B/\w.ownsMap Tryd.prog 3 (plainElem Tryd.prog 3) b n D/\KeysIn D (K:Int)/\∀ y,coefOf D y=f y
theorem WkV.on {w w':World} {B:Nat} {v:Value} {n K:Nat} {f:Int->Int} (h:WkV w B v n K f) (hb:Below B w w'):WkV w' B v n K f:=by
 rcases h with h|⟨b,D,rfl,hlt,ho,hk,hc⟩
 · exact Or.inl h
 · exact Or.inr ⟨b,D,rfl,hlt,map_on ho hb hlt,hk,hc⟩
theorem WkV.mono {w:World} {B B':Nat} {v:Value} {n n' K K':Nat} {f:Int->Int} (h:WkV w B v n K f) (hB:B<=B') (hn:n<=n') (hK:K<=K'):WkV w B' v n' K' f:=by
 rcases h with h|⟨b,D,rfl,hlt,ho,hk,hc⟩
 · exact Or.inl h
 · exact Or.inr ⟨b,D,rfl,Nat.lt_of_lt_of_le hlt hB,ho.mono hn,fun x hx=>by have:=hk x hx;omega,hc⟩
theorem WkV.set {w w':World} {B g:Nat} {v:Value} {n K:Nat} {f:Int->Int} {cs:Array Value} {e:TypeId} {z:Nat×Nat} (h:WkV w B v n K f) (hg:w.grownBy w' (some g)) (hc:w.heap[g]?=some (.cells cs e z)):WkV w' B v n K f:=by
 rcases h with h|⟨b,D,rfl,hlt,ho,hk,hcf⟩
 · exact Or.inl h
 · refine Or.inr ⟨b,D,rfl,hlt,ho.kept hg (fun e1=>?_),hk,hcf⟩
   obtain⟨es,clock,hm,-⟩:=ho
   rw[Option.some.inj e1,hc]at hm
   exact absurd hm (by simp)
theorem WkV.cell {w:World} {B:Nat} {v:Value} {n K:Nat} {f:Int->Int} (h:WkV w B v n K f):v=.map none∨∃ b,v=.map (some b):=by
 rcases h with h|⟨b,D,rfl,_⟩
 · exact Or.inl h.1
 · exact Or.inr ⟨b,rfl⟩
def LiV (w:World) (B b:Nat) (ql:List (Int×Int)):Prop:=b<B/\∃ D:DataW Unit,w.ownsMap Tryd.prog 3 (plainElem Tryd.prog 3) b 2 D/\KeysIn D 1/\∀ y,coefOf D y=coefL ql y
theorem LiV.on {w w':World} {B b:Nat} {ql:List (Int×Int)} (h:LiV w B b ql) (hb:Below B w w'):LiV w' B b ql:=by
 obtain⟨h1,D,h2,h3⟩:=h
 exact⟨h1,D,map_on h2 hb h1,h3⟩
theorem LiV.mono {w:World} {B B' b:Nat} {ql:List (Int×Int)} (h:LiV w B b ql) (hB:B<=B'):LiV w B' b ql:=⟨Nat.lt_of_lt_of_le h.1 hB,h.2⟩
theorem LiV.set {w w':World} {B g b:Nat} {ql:List (Int×Int)} {cs:Array Value} {e:TypeId} {z:Nat×Nat} (h:LiV w B b ql) (hg:w.grownBy w' (some g)) (hc:w.heap[g]?=some (.cells cs e z)):LiV w' B b ql:=by
 obtain⟨h1,D,h2,h3⟩:=h
 refine⟨h1,D,h2.kept hg (fun e1=>?_),h3⟩
 obtain⟨es,clock,hm,-⟩:=h2
 rw[Option.some.inj e1,hc]at hm
 exact absurd hm (by simp)
theorem times_wk (v : Value) (b np K H : Nat) (ql : List (Int × Int)) (f : Int → Int) (w : World) (hnp : np ≤ 1000000000000000) (hK : K ≤ 900) (hH : H ≤ 10000000000) (hf : ∀ y, -(H : Int) ≤ f y ∧ f y ≤ H) (hq : ∀ y, -100 ≤ coefL ql y ∧ coefL ql y ≤ 100) (h : WkV w w.heap.size v np K f) (hl : LiV w w.heap.size b ql) :
    Calls Tryd.prog 22 #[v,.map (some b)] w fun e w'=>∃ D:DataW Unit,e=.returned (.map (some w.heap.size))/\w'.ownsMap Tryd.prog 3 (plainElem Tryd.prog 3) w.heap.size (2*np) D/\KeysIn D ((K:Int)+1)/\(∀ y,coefOf D y=prodL ql f y)/\Below w.heap.size w w':=by
 rcases h with⟨rfl,h0⟩|⟨bp,Dp,rfl,hlt,ho,hk,hc⟩
 · refine(times_nil _ w).mono fun e w' ⟨h1,h2,h3⟩=>⟨.map [],h1,h2.mono (Nat.zero_le _),(fun x hx=>by cases hx),fun y=>?_,h3⟩
   rw[coefOf_none rfl]
   have hz:∀ q:List (Int×Int),prodL q f y=0:=fun q=>by
    induction q with
    |nil=>rfl
    |cons t q ih=>
     show t.2*f (y-t.1)+prodL q f y=0
     rw[ih,h0]
     omega
   rw[hz]
 · obtain⟨-,Dq,hoq,hkq,hcq⟩:=hl
   refine(timesB bp np b 2 K Dp Dq w ho hoq hnp (by omega) hK hk hkq (fun x=>by rw[hc];have:=hf x;omega) (fun x=>by rw[hcq];exact hq x)).mono ?_
   rintro e w' ⟨D,acc,h1,h2,h3,h4,h5,h6,h7⟩
   refine⟨D,h1,h2,h3,fun y=>?_,h7⟩
   rw[h4,prodL_congr acc _ _ hcq,prodL_comm,prodL_congr ql _ _ (fun u=>(coefL_of h5 h6 u).trans (hc u))]
end Go.Proofs.YtiliihlkpknhdaaDoor.Poly
