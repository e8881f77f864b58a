/- The walk of (poly.work).terms: the terms of a map from exponents to coefficients, in form. -/
import Derived.Test.YtgagenmkpmmpfaaPA8
import Derived.Test.YtgagenmkpmmpfaaBK0P
import Derived.Maps.RangeWalk
import Derived.Maps.OwnOps
namespace Go.Proofs.Ytgagenmkpmmpfaa.Poly
open Go.RowKit Go.Maps
set_option maxHeartbeats 1000000
set_option maxRecDepth 100000
theorem law3:Keyed Try.prog 3:=int_keyed Try.underlying3
theorem zero3 (w:World):(zeroValue 3).run Try.prog w=.ok (.int .i64 0) w:=by kernel_rfl
def coefOf (D:DataW Unit) (x:Int):Int:=
 match D.atKey (.int .i64 x) (.lit (.int .i64 0)) with
 |.lit (.int _ c)=>c
 |_=>0
theorem coefOf_at {D:DataW Unit} {x c:Int} (h:∀ zd,D.atKey (.int .i64 x) zd=.lit (.int .i64 c)):coefOf D x=c:=by
 unfold coefOf;rw[h]
theorem coefOf_none {D:DataW Unit} {x:Int} (h:Maps.has D (.int .i64 x)=false):coefOf D x=0:=by
 unfold coefOf;rw[atKey_of_not_has h]
structure Coll (D:DataW Unit) (left:Lit->Bool) (acc:List (Int×Int)):Prop where
 mem:∀ x c,(x,c)∈acc↔(left (.int .i64 x)=false/\coefOf D x=c/\c≠0)
 once:acc.Pairwise (fun a b=>a.1≠b.1)
theorem coll_start (D:DataW Unit):Coll D (Maps.has D) []:=
 ⟨fun x c=>⟨fun h=>(by cases h),fun⟨h1,h2,h3⟩=>by rw[coefOf_none h1]at h2;exact absurd h2.symm h3⟩,List.Pairwise.nil⟩
theorem strike_int (left:Lit->Bool) (x y:Int):(left (.int .i64 y)&&!(Lit.int .i64 y).sameKey (.int .i64 x))=false↔left (.int .i64 y)=false∨y=x:=by
 simp[Lit.sameKey]
 cases left (.int .i64 y)<;>simp
theorem coll_zero {D : DataW Unit} {left : Lit → Bool} {acc : List (Int × Int)} (h : Coll D left acc) {x : Int} (hat : ∀ zd, D.atKey (.int .i64 x) zd = .lit (.int .i64 0)) :
    Coll D (fun z=>left z&&!z.sameKey (.int .i64 x)) acc:=by
 refine⟨fun y c=>?_,h.once⟩
 rw[h.mem]
 constructor
 · rintro⟨h1,h2,h3⟩
   exact⟨(strike_int left x y).2 (Or.inl h1),h2,h3⟩
 · rintro⟨h1,h2,h3⟩
   rcases(strike_int left x y).1 h1 with h1|rfl
   · exact⟨h1,h2,h3⟩
   · rw[coefOf_at hat]at h2;exact absurd h2.symm h3
theorem coll_more {D : DataW Unit} {left : Lit → Bool} {acc : List (Int × Int)} (h : Coll D left acc) {x c : Int} (hl : left (.int .i64 x) = true) (hc : c ≠ 0) (hat : ∀ zd, D.atKey (.int .i64 x) zd = .lit (.int .i64 c)) :
    Coll D (fun z=>left z&&!z.sameKey (.int .i64 x)) (acc++[(x,c)]):=by
 refine⟨fun y d=>?_,?_⟩
 · rw[List.mem_append,h.mem]
   constructor
   · rintro(⟨h1,h2,h3⟩|h1)
     · exact⟨(strike_int left x y).2 (Or.inl h1),h2,h3⟩
     · simp at h1
       obtain⟨rfl,rfl⟩:=h1
       exact⟨(strike_int left y y).2 (Or.inr rfl),coefOf_at hat,hc⟩
   · rintro⟨h1,h2,h3⟩
     rcases(strike_int left x y).1 h1 with h1|rfl
     · exact Or.inl ⟨h1,h2,h3⟩
     · rw[coefOf_at hat]at h2
       subst h2
       exact Or.inr (by simp)
 · rw[List.pairwise_append]
   refine⟨h.once,List.pairwise_singleton _ _,fun a ha b hb=>?_⟩
   simp at hb
   subst hb
   intro e
   have:=((h.mem a.1 a.2).1 ha).1
   rw[e]at this
   simp only at this
   rw[hl]at this
   cases this
theorem coll_end {D:DataW Unit} {left:Lit->Bool} {acc l:List (Int×Int)} (h:Coll D left acc) (hl:∀ kl,left kl=false) (hp:l.Perm acc) (hs:l.Pairwise (fun a b=>a.1<=b.1)):Canon l (coefOf D):=
 ⟨rising_of hp hs h.once,fun x c=>by rw[hp.mem_iff,h.mem];simp[hl]⟩
theorem terms34 (b n : Nat) (D : DataW Unit) (w : World) (hown : w.ownsMap Try.prog 3 (plainElem Try.prog 3) b n D) (hn : Maps.size D ≤ 1000000000) :
    Calls Try.prog 57 #[.map (some b)] w fun e w'=>∃ v l,e=.returned v/\w'.ownsRow w.heap.size 95 2 v l.length (flat l)/\Canon l (coefOf D)/\l.length<=Maps.size D/\Below w.heap.size w w':=by
 obtain⟨i0,hi,hz0,hz1,hz2⟩:=info_parts infoTerm
 have hbl:=hown.lt
 go_enter Try.func57,Try.ntmps57
 go_wp2_with (first|(at_range;refine wpList_range_own _ rfl _ 118 rfl 3 3 law3 Try.underlying118 _ b n _ rfl hown ?_;intro w0 hrg0 hg0 hs0)|go_in)
 go_frame
 go_loopw [3] (fun v wr => ∃ (left : Lit → Bool) (cnt : Nat) (acc : List (Int × Int)), wr.ranges Try.prog 3 (plainElem Try.prog 3) b w.heap.size n D left cnt ∧ acc.length + cnt ≤ Maps.size D ∧
     wr.ownsRow w.heap.size 95 2 v acc.length (flat acc)/\Hid (Coll D left acc)/\Below w.heap.size w wr)
  (fun _ wr=>wr.rangeLeft b w.heap.size)
 case atStart=>
  exact⟨_,_,[],hrg0,by simp,World.ownsRow_nil _ _ _ _,coll_start D,(Below.refl _ _).grown hg0 (Nat.le_refl _) (fun j hj=>by cases hj)⟩
 case round=>
  obtain⟨left,cnt,acc,hrg,hcs,hrow,hC,hnx⟩:=hrel
  go_wp2_with (first
   |(at_next;refine wpList_next_ranges_ii _ rfl _ rfl 3 3 .i64 .i64 law3 Try.underlying3 Try.underlying3 b w.heap.size n _ _ _ rfl hrg ?_ ?_)
   |go_in)
  · intro hc0 hl0
    have hc:=sort_list w.heap.size _ acc _ (by omega) hrow
    go_wp2_with (go_at_call 67;refine hc.mono ?_;rintro e w' ⟨rfl,l,hp,hs,hrow2,hg2⟩)
    go_ret
    refine⟨_,l,rfl,hrow2,coll_end hC.out hl0 hp hs,by rw[hp.length_eq];omega,hnx.grown hg2 hnx.size (fun k hk=>(hrow.lt k hk).1)⟩
  · intro x c w1 cnt1 hwx hwc hlx hat hrg1 hlt hg1 hs1 hen
    have hrow1:=hrow.kept hg1 (Or.inr (row_ne_iter hrow hrg).symm)
    have hnx1:Below w.heap.size w w1:=hnx.grown hg1 hnx.size (fun j hj=>by cases hj;exact Nat.le_refl _)
    have Hat:Hid _:=hat
    clear hs1 hat
    by_cases hc:c=0
    · subst hc
      go_wp2
      go_roundw
      case rel=>exact⟨_,cnt1,acc,hrg1,by omega,hrow1,coll_zero hC.out Hat.out,hnx1⟩
      case measure=>rw[hrg1.left_eq,hrg.left_eq];exact hlt
    · have hcb:(c != 0)=true:=by rw[bne_iff_ne];exact hc
      have HC0:Hid (c≠0):=hc
      have hsz1:=hnx1.size
      clear hc
      go_wp2_with (first
       |(at_builtin;refine wpList_append_own _ rfl _ _ 56 rfl w.heap.size 95 i0 (.agg #[.int .i64 0,.int .i64 0]) 2 16 Try.underlying56 hi hz0 hz1 hz2 rfl (by decide) _ _ _ rfl (hrow1.alloc _) ⟨w1.heap.size,0,none⟩ 1 1 [.int .i64 x,.int .i64 c] rfl rfl (new_cells _ _ _) (pair_one _ _) (by unfold maxLen;omega) (by omega) (by simp;omega) ?_;intro v' w3 hown' hg3 _;go_frame)
       |go_in)
      have hrg3:=(hrg1.alloc _).kept hg3 (row_ne_low hrow1 hbl) (row_ne_iter hrow1 hrg1)
      go_roundw
      case rel=>
       refine⟨_,cnt1,acc++[(x,c)],hrg3,by simp;omega,?_,coll_more hC.out hlx HC0.out Hat.out,(hnx1.alloc hsz1 _).grown hg3 (by simp;omega) (fun j hj=>(hrow1.lt j hj).1)⟩
       rw[flat_append,List.length_append]
       exact hown'
      case measure=>rw[hrg3.left_eq,hrg.left_eq];exact hlt
end Go.Proofs.Ytgagenmkpmmpfaa.Poly
