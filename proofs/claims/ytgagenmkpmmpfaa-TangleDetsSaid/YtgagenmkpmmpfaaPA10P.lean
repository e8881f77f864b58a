/- Several texts of the proof, one behind the other. -/
import Derived.Test.YtgagenmkpmmpfaaPA9
import Derived.Maps.OwnSet
import Derived.Lib.Hide
/- The walks of poly.changed with the two closures that Flip and Unit hand it, and of Flip and Unit. -/
namespace Go.Proofs.Ytgagenmkpmmpfaa.Poly
open Go.RowKit Go.Maps
set_option maxHeartbeats 2000000
set_option maxRecDepth 100000
theorem make46 (n:Nat) (w:World):(Instr.makeMap 118 (some (.int .i64 (n:Int)))).run Try.prog w=.ok (.map (some w.heap.size)) (w.alloc (.map #[] 0)):=rfl
theorem coefOf_put {D:DataW Unit} (hD:IsMap D) (x c y:Int):coefOf (D.put (.int .i64 x) (.lit (.int .i64 c))) y=if x=y then c else coefOf D y:=by
 by_cases h:x=y
 · subst h
   rw[if_pos rfl]
   exact coefOf_at fun zd=>atKey_put_same hD (show WideAt.IsKeyLit (.int .i64 x) from trivial) _ _
 · rw[if_neg h]
   unfold coefOf
   rw[atKey_put_other (by intro e;cases e;exact h rfl)]
theorem coefOf_look {D:DataW Unit} {x c:Int} (h:D.atKey (.int .i64 x) (.lit (.int .i64 0))=.lit (.int .i64 c)):coefOf D x=c:=by
 unfold coefOf;rw[h]
theorem size_le {w:World} {b n:Nat} {D:DataW Unit} (h:w.ownsMap Try.prog 3 (plainElem Try.prog 3) b n D):Maps.size D<=n:=by
 obtain⟨es,clock,_,_,hle,rfl⟩:=h
 rw[size_eq,length_read]
 exact hle
theorem grown_below {w w':World} (h:Below w.heap.size w w') (row:Option Nat):w.grownBy w' row:=⟨h.os,h.tape,h.output,h.size,fun k hk _=>h.block k hk⟩
theorem own_lower {w:World} {B B':Nat} {v:Value} {n:Nat} {xs:List Value} (h:w.ownsRow B 95 2 v n xs) (hB:B'<=B):w.ownsRow B' 95 2 v n xs:=by
 refine⟨h.1,?_⟩
 rcases h.2 with hn|⟨g,cap,cur,hv,hb,rest⟩
 · exact .inl hn
 · exact .inr ⟨g,cap,cur,hv,by omega,rest⟩
theorem own_set2 {w : World} {b n t : Nat} {D : DataW Unit} (h : w.ownsMap Try.prog 3 (plainElem Try.prog 3) b n D) (hne : b ≠ t) (o1 o2 : Nat) (x y : Value) :
    ((w.setCell ⟨t,o1,none⟩ x).setCell ⟨t,o2,none⟩ y).ownsMap Try.prog 3 (plainElem Try.prog 3) b n D:=by
 obtain⟨es,clock,hh,rest⟩:=h
 refine⟨es,clock,?_,rest⟩
 rw[Below.heap_setCell _ _ _ _ hne,Below.heap_setCell _ _ _ _ hne]
 exact hh
theorem cell_up {B:Nat} {w wr:World} {p:Nat} {v:Value} (hb:Below B w wr) (hp:p<B) (h:w.cell? ⟨p,0,none⟩=some v) (hB:B<=wr.heap.size) (o:Obj):(wr.alloc o).cell? ⟨p,0,none⟩=some v:=by
 have h1:=bcell hb hp h
 have:=((Below.refl wr.heap.size wr).alloc (Nat.le_refl _) o).cell (p:=⟨p,0,none⟩) (show p<wr.heap.size by omega)
 rw[this];exact h1
theorem unit1 (e c e0 s : Int) (p q : Nat) (W : World) (hp : p < W.heap.size) (hq : q < W.heap.size) (cp : W.cell? ⟨p, 0, none⟩ = some (.int .i64 e0)) (cq : W.cell? ⟨q, 0, none⟩ = some (.int .i64 s))
    (h0 : -1000<=e) (h1:e<=1000) (h2 : -1000<=e0) (h3:e0<=1000) (h4 : -1000000<=s*c) (h5:s*c<=1000000):
    Calls Try.prog 55 #[.agg #[.int .i64 e,.int .i64 c],.pointer (some ⟨p,0,none⟩),.pointer (some ⟨q,0,none⟩)] W fun r w'=>r=.returned (.agg #[.int .i64 (e-e0),.int .i64 (s*c)])/\Below W.heap.size W w':=by
 go_enter Try.func55,Try.ntmps55
 go_wp2
 exact bodyPost_ret (v:=.agg #[.int .i64 (e-e0),.int .i64 (s*c)]) (by simp[results,Try.results55,go_sem]) rfl ⟨rfl,((Below.refl _ _).alloc (Nat.le_refl _) _).alloc (by simp) _⟩
def unitM (e0 s:Int) (l:List (Int×Int)):List (Int×Int):=l.map fun t=>(t.1-e0,s*t.2)
theorem changed_unit (b off cap p q : Nat) (e0 s : Int) (l : List (Int × Int)) (w : World) (hm : mayB l = true) (hbw : b < w.heap.size) (hT : TermsAt w b off l) (hp : p < w.heap.size) (hq : q < w.heap.size) (cp : w.cell? ⟨p, 0, none⟩ = some (.int .i64 e0)) (cq : w.cell? ⟨q, 0, none⟩ = some (.int .i64 s)) (he0 : -1000 ≤ e0) (he1 : e0 ≤ 1000) (hs1 : s = 1 ∨ s = -1) :
    Calls Try.prog 54 #[.slice (some ⟨b,off,none⟩) l.length cap,.func (.func 55) #[] #[.pointer (some ⟨p,0,none⟩),.pointer (some ⟨q,0,none⟩)]] w fun e w'=>∃ v r,e=.returned v/\w'.ownsRow w.heap.size 95 2 v r.length (flat r)/\Canon r (coefL (unitM e0 s l))/\r.length<=64/\Below w.heap.size w w':=by
 have hl64:=((may_iff l).1 hm).1
 have HM:Hid (mayB l=true):=hm
 have HT:Hid (TermsAt w b off l):=hT
 have hmm:=make46 l.length
 have CP:Hid _:=cp
 have CQ:Hid _:=cq
 have HS1:Hid (s=1∨s = -1):=hs1
 have Hmul:Hid (∀ c:Int,-1000000<=c->c<=1000000 -> -1000000<=s*c/\s*c<=1000000):=fun c a b=>by
  rcases hs1 with h|h
  · rw[h];omega
  · rw[h];omega
 clear hm hT cp cq hs1
 go_enter Try.func54,Try.ntmps54
 go_wp2
 go_loopw [13] (fun i wr=>∃ (k:Nat) (D:DataW Unit),k<=l.length/\i=.int .i64 k/\wr.ownsMap Try.prog 3 (plainElem Try.prog 3) w.heap.size k D/\Below w.heap.size w wr/\Hid (∀ x,coefOf D x=coefL ((unitM e0 s l).take k) x)) (fun i _=>l.length-(intOf i).toNat)
 case atStart=>exact⟨0,.map [],Nat.zero_le _,rfl,World.ownsMap_made _ _ _ _,(Below.refl _ _).alloc (Nat.le_refl _) _,fun x=>coefOf_none rfl⟩
 case round=>
  obtain⟨k,D,hk,rfl,hown,hb,hD⟩:=hrel
  by_cases hlt:k<l.length
  · have c0:=bcell hb hbw (HT.out k hlt).1
    have c1:=bcell hb hbw (HT.out k hlt).2
    have hok:=(okB_iff l k).1 (((may_iff l).1 HM.out).2 k hlt)
    have hsz:=hb.size
    have hbr:b<wr.heap.size:=Nat.lt_of_lt_of_le hbw hsz
    generalize he:(l.getD k (0,0)).1=e at c0 hok
    generalize hc:(l.getD k (0,0)).2=c at c1 hok
    have HS:Hid (∀ x,coefL ((unitM e0 s l).take (k+1)) x=coefL ((unitM e0 s l).take k) x+(if e-e0=x then s*c else 0)):=fun x=>by
     have g:(unitM e0 s l).getD k (0,0)=(e-e0,s*c):=by
      have gl:l.getD k (0,0)=l[k]:=by simp[List.getD,hlt]
      rw[gl]at he hc
      simp[unitM,List.getD,hlt,he,hc]
     rw[coefL_take _ k (by simpa[unitM] using hlt),g]
    have HB:Hid (∀ x,-64000000<=coefL ((unitM e0 s l).take k) x/\coefL ((unitM e0 s l).take k) x<=64000000):=fun x=>by
     have := coefL_le ((unitM e0 s l).take k) 1000000 x (fun t ht => by
      have ht2:=List.mem_of_mem_take ht
      simp only[unitM,List.mem_map]at ht2
      obtain⟨s,hs,rfl⟩:=ht2
      obtain⟨i,hi,rfl⟩:=List.getElem_of_mem hs
      have:=(okB_iff l i).1 (((may_iff l).1 HM.out).2 i hi)
      simp only[List.getD,List.getElem?_eq_getElem hi,Option.getD_some]at this
      exact Hmul.out _ this.2.2.1 this.2.2.2.1) (by decide)
     have hl:((unitM e0 s l).take k).length<=64:=by simp[unitM];omega
     omega
    clear he hc
    obtain⟨o1,o2,o3,o4,o5,-⟩:=hok
    clear o5
    have hsc:=Hmul.out c o3 o4
    go_wp2_with (go_at_call 55;refine(unit1 _ _ _ _ _ _ _ (by simp;omega) (by simp;omega) (cell_up hb hp CP.out hsz _) (cell_up hb hq CQ.out hsz _) o1 o2 he0 he1 hsc.1 hsc.2).mono ?_;rintro r w1 ⟨rfl,hb1⟩;refine Hid.out ?_)
    refine Lib.hid ?_
    have hT1:w1.heap[wr.heap.size]?=some (.cells #[.int .i64 e,.int .i64 c] 95 (0,0)):=(hb1.block _ (by simp)).trans Array.getElem?_push_size
    have d0:w1.cell? ⟨wr.heap.size,0,none⟩=some (.int .i64 e):=by unfold World.cell?;rw[hT1];rfl
    have d1:w1.cell? ⟨wr.heap.size,1,none⟩=some (.int .i64 c):=by unfold World.cell?;rw[hT1];rfl
    have f0:w1.frozen? ⟨wr.heap.size,0,none⟩=false:=by simp[World.frozen?,hT1]
    have f1:w1.frozen? ⟨wr.heap.size,1,none⟩=false:=by simp[World.frozen?,hT1]
    have hown1:w1.ownsMap Try.prog 3 (plainElem Try.prog 3) w.heap.size k D:=(hown.alloc _).kept (grown_below hb1 none) (by simp)
    have hnx1:Below w.heap.size w w1:=(hb.alloc hsz _).trans (hb1.mono (by simp;omega))
    have hBlt:=hown.lt
    clear hT1 hb1 c0 c1 hown
    go_wp2_with (first
     |(at_lookup;refine wpList_lookup_own_int _ rfl _ _ 118 rfl 3 3 .i64 law3 Try.underlying118 Try.underlying3 (zero3 _) w.heap.size k _ rfl (own_set2 hown1 (by omega) _ _ _ _) _ _ rfl (keyOf_int_mk Try.underlying3 (WalkArith.wf_i64 (by omega))) ?_;intro c' hat hwc;refine Hid.out ?_))
    refine Lib.hid ?_
    have hc':coefL ((unitM e0 s l).take k) (e-e0)=c':=by rw[<-hD.out,coefOf_look hat]
    have hbd:=HB.out (e-e0)
    rw[hc']at hbd
    have HC':Hid (coefL ((unitM e0 s l).take k) (e-e0)=c'):=hc'
    have hdm:=hown1.isMap
    clear hat hwc hc'
    go_wp2_with (first
     |(at_mapUpdate;refine wpList_mapUpdate_own _ rfl _ _ _ 118 rfl 3 3 law3 Try.underlying118 _ w.heap.size k _ rfl (own_set2 hown1 (by omega) _ _ _ _) (by unfold maxLen;omega) _ _ _ rfl rfl (keyOf_int_mk Try.underlying3 (WalkArith.wf_i64 (by omega))) _ [] (plainElem_int Try.underlying3 (WalkArith.wf_i64 (by omega))) ?_;intro w2 hown2 hg2;go_frame))
    go_roundw
    case rel=>
     refine⟨k+1,_,by omega,by go_num,hown2,((hnx1.setCell (by simp;omega) _).setCell (by simp;omega) _).grown hg2 (by have:=hnx1.size;simp[World.setCell];omega) (fun j hj=>by cases hj;exact Nat.le_refl _),fun x=>?_⟩
     rw[coefOf_put hdm,HS.out]
     by_cases hx:e-e0=x
     · rw[if_pos hx,if_pos hx,<-hx,HC'.out]
     · rw[if_neg hx,if_neg hx,hD.out];omega
    case measure=>simp[intOf];omega
  · obtain rfl:k=l.length:=by omega
    have hs:=size_le hown
    have htake:(unitM e0 s l).take l.length=unitM e0 s l:=List.take_of_length_le (by simp[unitM])
    have hD2:=hD.out
    rw[htake]at hD2
    have HD2:Hid _:=hD2
    clear hD hD2 htake
    go_wp2_with (go_at_call 57;refine(terms34 w.heap.size l.length D _ hown (by omega)).mono ?_;rintro r w1 ⟨v,m,rfl,hrow,hcan,hml,hb1⟩)
    go_ret
    exact⟨v,m,rfl,own_lower hrow hb.size,canon_congr hcan HD2.out,by omega,hb.trans (hb1.mono hb.size)⟩
end Go.Proofs.Ytgagenmkpmmpfaa.Poly
/- The walks of poly.Flip and poly.Unit: they answer what the document's own functions answer. -/
namespace Go.Proofs.Ytgagenmkpmmpfaa.Poly
open Go.RowKit Go.Maps
set_option maxHeartbeats 1000000
set_option maxRecDepth 100000
theorem may_rising {l:List (Int×Int)} (hm:mayB l=true):l.Pairwise (fun a b=>a.1<b.1):=by
 have step:∀ i,(h:i+1<l.length)->l[i].1<l[i+1].1:=fun i h=>by
  have:=((okB_iff l (i+1)).1 (((may_iff l).1 hm).2 (i+1) h)).2.2.2.2.2 (by omega)
  simpa[List.getD,h,show i<l.length by omega] using this
 rw[List.pairwise_iff_getElem]
 intro i j hi hj hij
 obtain⟨d,rfl⟩:∃ d,j=i+1+d:=⟨j - (i+1),by omega⟩
 clear hij
 induction d with
 |zero=>exact step i hj
 |succ d ih=>
  have h1:=ih (by omega)
  have h2:=step (i+1+d) (by omega)
  exact Int.lt_trans h1 h2
theorem may_nonzero {l:List (Int×Int)} (hm:mayB l=true):∀ t∈l,t.2≠0:=by
 intro t ht
 obtain⟨i,hi,rfl⟩:=List.getElem_of_mem ht
 have:=((okB_iff l i).1 (((may_iff l).1 hm).2 i hi)).2.2.2.2.1
 simpa[List.getD,hi] using this
theorem unit_eq {l:List (Int×Int)} {e0 c0 s:Int} (he:(l.getD 0 (0,0)).1=e0) (hc:(l.getD 0 (0,0)).2=c0) (hs:(c0<0/\s = -1)∨(¬ c0<0/\s=1)):unitM e0 s l=unitL l:=by
 unfold unitM unitL
 rw[he,hc]
 apply List.map_congr_left
 intro t _
 rcases hs with⟨h,rfl⟩|⟨h,rfl⟩
 · rw[if_pos h];simp
 · rw[if_neg h];simp
theorem canon_unit {l:List (Int×Int)} (hm:mayB l=true):Canon (unitL l) (coefL (unitL l)):=by
 refine canon_self ?_ ?_
 · unfold unitL
   rw[List.pairwise_map]
   exact(may_rising hm).imp fun h=>by show _-_<_-_;omega
 · intro t ht
   simp only[unitL,List.mem_map]at ht
   obtain⟨s,hs,rfl⟩:=ht
   have:=may_nonzero hm s hs
   simp only
   split
   · omega
   · exact this
theorem unit_none (a : Option Addr) (cap : Nat) (w : World) :
    Calls Try.prog 37 #[.slice a 0 cap] w fun e w'=>e=.returned (.tuple #[.slice none 0 0,.int .i64 0])/\Below w.heap.size w w':=by
 go_enter Try.func37,Try.ntmps37
 go_wp2_with (go_at_call 39;refine(mayBe_nil _ _ _).mono ?_;rintro r w1 ⟨rfl,hb1⟩)
 go_ret2
 exact⟨rfl,hb1⟩
theorem box_two (w : World) (x y : Value) : ((w.alloc (.cells #[x] 3)).alloc (.cells #[y] 3)).cell? ⟨w.heap.size, 0, none⟩ = some x ∧ ((w.alloc (.cells #[x] 3)).alloc (.cells #[y] 3)).cell? ⟨w.heap.size + 1, 0, none⟩ = some y ∧
    ((w.alloc (.cells #[x] 3)).alloc (.cells #[y] 3)).heap.size=w.heap.size+2/\Below w.heap.size w ((w.alloc (.cells #[x] 3)).alloc (.cells #[y] 3)):=by
 have hs:(w.alloc (.cells #[x] 3)).heap.size=w.heap.size+1:=by simp
 have h1:(w.alloc (.cells #[x] 3)).heap[w.heap.size]?=some (.cells #[x] 3 (0,0)):=Array.getElem?_push_size
 have h2:((w.alloc (.cells #[x] 3)).alloc (.cells #[y] 3)).heap[w.heap.size]?=some (.cells #[x] 3 (0,0)):=(Below.heap_alloc _ _ _ (by omega)).trans h1
 have h3:((w.alloc (.cells #[x] 3)).alloc (.cells #[y] 3)).heap[w.heap.size+1]?=some (.cells #[y] 3 (0,0)):=by
  rw[<-hs];exact Array.getElem?_push_size
 refine⟨?_,?_,by simp,((Below.refl _ _).alloc (Nat.le_refl _) _).alloc (by simp) _⟩
 · unfold World.cell?;rw[h2];rfl
 · unfold World.cell?;rw[h3];rfl
theorem unit_call (b off cap : Nat) (e0 s : Int) (l : List (Int × Int)) (w : World) (hm : mayB l = true) (hbw : b < w.heap.size) (hT : TermsAt w b off l) (he0 : -1000 ≤ e0) (he1 : e0 ≤ 1000) (hs1 : s = 1 ∨ s = -1) (hu : unitM e0 s l = unitL l) :
    Calls Try.prog 54 #[.slice (some ⟨b,off,none⟩) l.length cap,.func (.func 55) #[] #[.pointer (some ⟨w.heap.size,0,none⟩),.pointer (some ⟨w.heap.size+1,0,none⟩)]] ((w.alloc (.cells #[.int .i64 e0] 3)).alloc (.cells #[.int .i64 s] 3)) fun e w'=>
     ∃ v',e=.returned v'/\Poly w' w'.heap.size v' (unitL l)/\Below w.heap.size w w':=by
 obtain⟨c0,c1,hsz,hb⟩:=box_two w (.int .i64 e0) (.int .i64 s)
 refine(changed_unit b off cap _ _ e0 s l _ hm (by omega) (hT.on hb hbw) (by omega) (by omega) c0 c1 he0 he1 hs1).mono ?_
 rintro e w' ⟨v,r,rfl,hrow,hcan,_,hb2⟩
 rw[hu]at hcan
 obtain rfl:=canon_unique hcan (canon_unit hm)
 exact⟨v,rfl,Poly.ofRow hrow,hb.trans (hb2.mono (by omega))⟩
theorem unit_some (b off cap : Nat) (l : List (Int × Int)) (w : World) (hpos : 0 < l.length) (hm : mayB l = true) (hbw : b < w.heap.size) (hT : TermsAt w b off l) :
    Calls Try.prog 37 #[.slice (some ⟨b,off,none⟩) l.length cap] w fun e w'=>∃ v',e=.returned (.tuple #[v',.int .i64 0])/\Poly w' w'.heap.size v' (unitL l)/\Below w.heap.size w w':=by
 have hl64:=((may_iff l).1 hm).1
 have HL:Hid (l.length<=maxLen):=by show _<=_;unfold maxLen;omega
 have HM:Hid (mayB l=true):=hm
 have HT:Hid (TermsAt w b off l):=hT
 have hok:=(okB_iff l 0).1 (((may_iff l).1 hm).2 0 hpos)
 obtain⟨c0,c1⟩:=hT 0 hpos
 simp only[Nat.zero_mul,Nat.add_zero]at c0 c1
 generalize he:(l.getD 0 (0,0)).1=e0 at c0 hok
 generalize hc:(l.getD 0 (0,0)).2=k0 at c1 hok
 have HE:Hid (∀ s,(k0<0/\s = -1)∨(¬ k0<0/\s=1)->unitM e0 s l=unitL l):=fun s hs=>unit_eq he hc hs
 clear he hc hm hT
 obtain⟨o1,o2,o3,o4,o5,-⟩:=hok
 clear o5
 have h0:((l.length:Int)==0)=false:=beq_eq_false_iff_ne.2 (by omega)
 by_cases hneg:k0<0
 · have HU:Hid _:=HE.out (-1) (Or.inl ⟨hneg,rfl⟩)
   go_enter Try.func37,Try.ntmps37
   go_wp2_with (first|(go_at_call 39;refine(mayBe_any b off cap l _ HL.out hbw HT.out).mono ?_;rw[HM.out];rintro r w1 ⟨rfl,hb1⟩;have q0:=bcell hb1 hbw c0;have q1:=bcell hb1 hbw c1;have hs1:=hb1.size;have hbr:b<w1.heap.size:=Nat.lt_of_lt_of_le hbw hs1)|(go_at_call 54;refine(unit_call b off cap e0 (-1) l w1 HM.out hbr (HT.out.on hb1 hbw) o1 o2 (by decide) HU.out).mono ?_;rintro r w2 ⟨v2,rfl,hP2,hb2⟩))
   go_ret2
   exact⟨v2,rfl,hP2,hb1.trans (hb2.mono hs1)⟩
 · have HU:Hid _:=HE.out (1) (Or.inr ⟨hneg,rfl⟩)
   go_enter Try.func37,Try.ntmps37
   go_wp2_with (first|(go_at_call 39;refine(mayBe_any b off cap l _ HL.out hbw HT.out).mono ?_;rw[HM.out];rintro r w1 ⟨rfl,hb1⟩;have q0:=bcell hb1 hbw c0;have q1:=bcell hb1 hbw c1;have hs1:=hb1.size;have hbr:b<w1.heap.size:=Nat.lt_of_lt_of_le hbw hs1)|(go_at_call 54;refine(unit_call b off cap e0 (1) l w1 HM.out hbr (HT.out.on hb1 hbw) o1 o2 (by decide) HU.out).mono ?_;rintro r w2 ⟨v2,rfl,hP2,hb2⟩))
   go_ret2
   exact⟨v2,rfl,hP2,hb1.trans (hb2.mono hs1)⟩
theorem unit_yes (v : Value) (l : List (Int × Int)) (w : World) (hm : mayB l = true) (hP : Poly w w.heap.size v l) :
    Calls Try.prog 37 #[v] w fun e w'=>∃ v',e=.returned (.tuple #[v',.int .i64 0])/\Poly w' w'.heap.size v' (unitL l)/\Below w.heap.size w w':=by
 obtain⟨a,cap,rfl,hp⟩:=hP.slice
 rcases Nat.eq_zero_or_pos l.length with h0|h0
 · have e0:l=[]:=List.length_eq_zero_iff.1 h0
   subst e0
   exact(unit_none a cap w).mono fun e w' ⟨h1,h2⟩=>⟨_,h1,Or.inl ⟨rfl,rfl⟩,h2⟩
 · obtain⟨b,off,rfl,hlt,hT⟩:=hp h0
   exact unit_some b off cap l w h0 hm hlt hT
end Go.Proofs.Ytgagenmkpmmpfaa.Poly
/- The walk of poly.collected: a polynomial's terms in a map. -/
namespace Go.Proofs.Ytgagenmkpmmpfaa.Poly
open Go.RowKit Go.Maps
set_option maxHeartbeats 2000000
set_option maxRecDepth 100000
def KeysIn (D:DataW Unit) (N:Int):Prop:=∀ x,Maps.has D (.int .i64 x)=true -> -N<=x/\x<=N
theorem keysIn_put {D:DataW Unit} {N x:Int} (h:KeysIn D N) (h0 : -N<=x) (h1:x<=N) (d:DataW Unit):KeysIn (D.put (.int .i64 x) d) N:=by
 intro y hy
 by_cases e:y=x
 · subst e;exact⟨h0,h1⟩
 · rw[has_put_other (by intro e';cases e';exact e rfl)]at hy
   exact h y hy
theorem may_coef {l:List (Int×Int)} (hm:mayB l=true):∀ t∈l,-1000<=t.1/\t.1<=1000 /\ -1000000<=t.2/\t.2<=1000000:=by
 intro t ht
 obtain⟨i,hi,rfl⟩:=List.getElem_of_mem ht
 have:=(okB_iff l i).1 (((may_iff l).1 hm).2 i hi)
 simp only[List.getD,List.getElem?_eq_getElem hi,Option.getD_some]at this
 exact⟨this.1,this.2.1,this.2.2.1,this.2.2.2.1⟩
theorem collected_some (b off cap : Nat) (l : List (Int × Int)) (w : World) (hm : mayB l = true) (hbw : b < w.heap.size) (hT : TermsAt w b off l) :
    Calls Try.prog 90 #[.slice (some ⟨b,off,none⟩) l.length cap] w fun e w'=>∃ D:DataW Unit,e=.returned (.map (some w.heap.size))/\w'.ownsMap Try.prog 3 (plainElem Try.prog 3) w.heap.size l.length D/\(∀ x,coefOf D x=coefL l x)/\KeysIn D 1000/\Below w.heap.size w w':=by
 have hl64:=((may_iff l).1 hm).1
 have HM:Hid (mayB l=true):=hm
 have HT:Hid (TermsAt w b off l):=hT
 have hmm:=make46 l.length
 clear hm hT
 go_enter Try.func90,Try.ntmps90
 go_wp2
 go_loopw [11] (fun i wr=>∃ (k:Nat) (D:DataW Unit),k<=l.length/\i=.int .i64 k/\wr.ownsMap Try.prog 3 (plainElem Try.prog 3) w.heap.size k D/\Below w.heap.size w wr/\Hid (∀ x,coefOf D x=coefL (l.take k) x)/\Hid (KeysIn D 1000)) (fun i _=>l.length-(intOf i).toNat)
 case atStart=>exact⟨0,.map [],Nat.zero_le _,rfl,World.ownsMap_made _ _ _ _,(Below.refl _ _).alloc (Nat.le_refl _) _,fun x=>coefOf_none rfl,fun x hx=>by cases hx⟩
 case round=>
  obtain⟨k,D,hk,rfl,hown,hb,hD,hK⟩:=hrel
  by_cases hlt:k<l.length
  · have c0:=bcell hb hbw (HT.out k hlt).1
    have c1:=bcell hb hbw (HT.out k hlt).2
    have hok:=(okB_iff l k).1 (((may_iff l).1 HM.out).2 k hlt)
    have hsz:=hb.size
    have hbr:b<wr.heap.size:=Nat.lt_of_lt_of_le hbw hsz
    have HS0:=coefL_take l k hlt
    generalize he:(l.getD k (0,0)).1=e at c0 hok HS0
    generalize hc:(l.getD k (0,0)).2=c at c1 hok HS0
    have HS:Hid (∀ x,coefL (l.take (k+1)) x=coefL (l.take k) x+(if e=x then c else 0)):=HS0
    have HB:Hid (∀ x,-64000000<=coefL (l.take k) x/\coefL (l.take k) x<=64000000):=fun x=>by
     have:=coefL_le (l.take k) 1000000 x (fun t ht=>(may_coef HM.out t (List.mem_of_mem_take ht)).2.2) (by decide)
     have hl:(l.take k).length<=64:=by simp;omega
     omega
    clear he hc HS0
    obtain⟨o1,o2,o3,o4,o5,-⟩:=hok
    clear o5
    have hBlt:=hown.lt
    go_wp2_with (first
     |(at_lookup;refine wpList_lookup_own_int _ rfl _ _ 118 rfl 3 3 .i64 law3 Try.underlying118 Try.underlying3 (zero3 _) w.heap.size k _ rfl (hown.alloc _) _ _ rfl (keyOf_int_mk Try.underlying3 (WalkArith.wf_i64 (by omega))) ?_;intro c' hat hwc;refine Hid.out ?_))
    refine Lib.hid ?_
    have hc':coefL (l.take k) e=c':=by rw[<-hD.out,coefOf_look hat]
    have hbd:=HB.out e
    rw[hc']at hbd
    have HC':Hid (coefL (l.take k) e=c'):=hc'
    have hdm:=hown.isMap
    clear hat hwc hc'
    go_wp2_with (first
     |(at_mapUpdate;refine wpList_mapUpdate_own _ rfl _ _ _ 118 rfl 3 3 law3 Try.underlying118 _ w.heap.size k _ rfl (hown.alloc _) (by unfold maxLen;omega) _ _ _ rfl rfl (keyOf_int_mk Try.underlying3 (WalkArith.wf_i64 (by omega))) _ [] (plainElem_int Try.underlying3 (WalkArith.wf_i64 (by omega))) ?_;intro w2 hown2 hg2;go_frame))
    go_roundw
    case rel=>
     refine⟨k+1,_,by omega,by go_num,hown2,(hb.alloc hsz _).grown hg2 (by simp;omega) (fun j hj=>by cases hj;exact Nat.le_refl _),fun x=>?_,keysIn_put hK.out o1 o2 _⟩
     rw[coefOf_put hdm,HS.out]
     by_cases hx:e=x
     · rw[if_pos hx,if_pos hx,<-hx,HC'.out]
     · rw[if_neg hx,if_neg hx,hD.out];omega
    case measure=>simp[intOf];omega
  · obtain rfl:k=l.length:=by omega
    have htake:l.take l.length=l:=List.take_of_length_le (Nat.le_refl _)
    have hD2:=hD.out
    rw[htake]at hD2
    have HD2:Hid _:=hD2
    clear hD hD2 htake
    go_wp2
    go_ret
    exact⟨D,rfl,hown,HD2.out,hK.out,hb⟩
theorem collected_none (a : Option Addr) (cap : Nat) (w : World) :
    Calls Try.prog 90 #[.slice a 0 cap] w fun e w'=>e=.returned (.map (some w.heap.size))/\w'.ownsMap Try.prog 3 (plainElem Try.prog 3) w.heap.size 0 (.map []:DataW Unit)/\Below w.heap.size w w':=by
 have hmm:=make46 0
 simp only[Int.natCast_zero]at hmm
 go_enter Try.func90,Try.ntmps90
 go_wp2
 go_loopw [11] (fun i wr=>i=.int .i64 0/\wr.ownsMap Try.prog 3 (plainElem Try.prog 3) w.heap.size 0 (.map []:DataW Unit)/\Below w.heap.size w wr) (fun _ _=>0)
 case atStart=>exact⟨rfl,World.ownsMap_made _ _ _ _,(Below.refl _ _).alloc (Nat.le_refl _) _⟩
 case round=>
  obtain⟨rfl,hown,hb⟩:=hrel
  go_wp2
  go_ret
  exact⟨rfl,hown,hb⟩
theorem collected_poly (v : Value) (l : List (Int × Int)) (w : World) (hm : mayB l = true) (hP : Poly w w.heap.size v l) :
    Calls Try.prog 90 #[v] w fun e w'=>∃ D:DataW Unit,e=.returned (.map (some w.heap.size))/\w'.ownsMap Try.prog 3 (plainElem Try.prog 3) w.heap.size l.length D/\(∀ x,coefOf D x=coefL l x)/\KeysIn D 1000/\Below w.heap.size w w':=by
 rcases hP with⟨rfl,rfl⟩|⟨a,cap,rfl,rfl⟩|⟨b,off,cap,rfl,hlt,hT⟩
 · exact(collected_none none 0 w).mono fun e w' ⟨h1,h2,h3⟩=>⟨_,h1,h2,fun x=>coefOf_none rfl,fun x hx=>(by cases hx),h3⟩
 · exact(collected_none (some a) cap w).mono fun e w' ⟨h1,h2,h3⟩=>⟨_,h1,h2,fun x=>coefOf_none rfl,fun x hx=>(by cases hx),h3⟩
 · exact collected_some b off cap l w hm hlt hT
end Go.Proofs.Ytgagenmkpmmpfaa.Poly
