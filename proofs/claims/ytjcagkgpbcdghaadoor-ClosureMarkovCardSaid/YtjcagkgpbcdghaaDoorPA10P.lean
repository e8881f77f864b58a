/- Several texts of the proof, one behind the other. -/
import Derived.Test.YtjcagkgpbcdghaaDoorPA9
import Derived.Maps.OwnSet
import Derived.Lib.Hide
import Derived.Test.YtjcagkgpbcdghaaDoorPMathP
/- The walks of poly.changed with the two closures that Flip and Unit hand it, and of Flip and Unit. -/
namespace Go.Proofs.YtjcagkgpbcdghaaDoor.Poly
open Go.RowKit Go.Maps
set_option maxHeartbeats 2000000
set_option maxRecDepth 100000
theorem ZZ8 (n:Nat) (w:World):(Instr.makeMap 50 (some (.int .i64 (n:Int)))).run Tryd.prog w=.ok (.map (some w.heap.size)) (w.alloc (.map #[] 0)):=rfl
theorem coefOf_put {D:DataW Unit} (hD:IsMap D) (x c y:Int):coefOf (D.put (.int .i64 x) (.lit (.int .i64 c))) y=if x=y then c else coefOf D y:=by
 by_cases h:x=y
 · subst h
   rw[if_pos rfl]
   exact coefOf_at fun zd=>atKey_put_same hD (show WideAt.IsKeyLit (.int .i64 x) from trivial) _ _
 · rw[if_neg h]
   unfold coefOf
   rw[atKey_put_other (by intro e;cases e;exact h rfl)]
theorem coefOf_look {D:DataW Unit} {x c:Int} (h:D.atKey (.int .i64 x) (.lit (.int .i64 0))=.lit (.int .i64 c)):coefOf D x=c:=by
 unfold coefOf;rw[h]
theorem size_le {w:World} {b n:Nat} {D:DataW Unit} (h:w.ownsMap Tryd.prog 3 (plainElem Tryd.prog 3) b n D):Maps.size D<=n:=by
 obtain⟨es,clock,_,_,hle,rfl⟩:=h
 rw[size_eq,length_read]
 exact hle
theorem grown_below {w w':World} (h:Below w.heap.size w w') (row:Option Nat):w.grownBy w' row:=⟨h.os,h.tape,h.output,h.size,fun k hk _=>h.block k hk⟩
theorem Xj7 {w:World} {B B':Nat} {v:Value} {n:Nat} {xs:List Value} (h:w.ownsRow B 56 2 v n xs) (hB:B'<=B):w.ownsRow B' 56 2 v n xs:=by
 refine⟨h.1,?_⟩
 rcases h.2 with hn|⟨g,cap,cur,hv,hb,rest⟩
 · exact .inl hn
 · exact .inr ⟨g,cap,cur,hv,by omega,rest⟩
theorem ZW0 {w : World} {b n t : Nat} {D : DataW Unit} (h : w.ownsMap Tryd.prog 3 (plainElem Tryd.prog 3) b n D) (hne : b ≠ t) (o1 o2 : Nat) (x y : Value) :
    ((w.setCell ⟨t,o1,none⟩ x).setCell ⟨t,o2,none⟩ y).ownsMap Tryd.prog 3 (plainElem Tryd.prog 3) b n D:=by
 obtain⟨es,clock,hh,rest⟩:=h
 refine⟨es,clock,?_,rest⟩
 rw[Below.heap_setCell _ _ _ _ hne,Below.heap_setCell _ _ _ _ hne]
 exact hh
theorem Zd6 {B:Nat} {w wr:World} {p:Nat} {v:Value} (hb:Below B w wr) (hp:p<B) (h:w.cell? ⟨p,0,none⟩=some v) (hB:B<=wr.heap.size) (o:Obj):(wr.alloc o).cell? ⟨p,0,none⟩=some v:=by
 have h1:=bcell hb hp h
 have:=((Below.refl wr.heap.size wr).alloc (Nat.le_refl _) o).cell (p:=⟨p,0,none⟩) (show p<wr.heap.size by omega)
 rw[this];exact h1
theorem Jq1 (e c e0 s : Int) (p q : Nat) (W : World) (hp : p < W.heap.size) (hq : q < W.heap.size) (cp : W.cell? ⟨p, 0, none⟩ = some (.int .i64 e0)) (cq : W.cell? ⟨q, 0, none⟩ = some (.int .i64 s))
    (h0 : -1000<=e) (h1:e<=1000) (h2 : -1000<=e0) (h3:e0<=1000) (h4 : -1000000<=s*c) (h5:s*c<=1000000):
    Calls Tryd.prog 46 #[.agg #[.int .i64 e,.int .i64 c],.pointer (some ⟨p,0,none⟩),.pointer (some ⟨q,0,none⟩)] W fun r w'=>r=.returned (.agg #[.int .i64 (e-e0),.int .i64 (s*c)])/\Below W.heap.size W w':=by
 go_enter Tryd.func46,Tryd.ntmps46
 go_wp2
 exact bodyPost_ret (v:=.agg #[.int .i64 (e-e0),.int .i64 (s*c)]) (by simp[results,Tryd.results46,go_sem]) rfl ⟨rfl,((Below.refl _ _).alloc (Nat.le_refl _) _).alloc (by simp) _⟩
def QD3 (e0 s:Int) (l:List (Int×Int)):List (Int×Int):=l.map fun t=>(t.1-e0,s*t.2)
theorem Xy2 (b off cap p q : Nat) (e0 s : Int) (l : List (Int × Int)) (w : World) (hm : mayB l = true) (hbw : b < w.heap.size) (hT : TermsAt w b off l) (hp : p < w.heap.size) (hq : q < w.heap.size) (cp : w.cell? ⟨p, 0, none⟩ = some (.int .i64 e0)) (cq : w.cell? ⟨q, 0, none⟩ = some (.int .i64 s)) (he0 : -1000 ≤ e0) (he1 : e0 ≤ 1000) (hs1 : s = 1 ∨ s = -1) :
    Calls Tryd.prog 45 #[.slice (some ⟨b,off,none⟩) l.length cap,.func (.func 46) #[] #[.pointer (some ⟨p,0,none⟩),.pointer (some ⟨q,0,none⟩)]] w fun e w'=>∃ v r,e=.returned v/\w'.ownsRow w.heap.size 56 2 v r.length (flat r)/\Canon r (coefL (QD3 e0 s l))/\r.length<=64/\Below w.heap.size w w':=by
 have hl64:=((may_iff l).1 hm).1
 have HM:Hid (mayB l=true):=hm
 have HT:Hid (TermsAt w b off l):=hT
 have hmm:=ZZ8 l.length
 have CP:Hid _:=cp
 have CQ:Hid _:=cq
 have HS1:Hid (s=1∨s = -1):=hs1
 have Hmul:Hid (∀ c:Int,-1000000<=c->c<=1000000 -> -1000000<=s*c/\s*c<=1000000):=fun c a b=>by
  rcases hs1 with h|h
  · rw[h];omega
  · rw[h];omega
 clear hm hT cp cq hs1
 go_enter Tryd.func45,Tryd.ntmps45
 go_wp2
 go_loopw [13] (fun i wr=>∃ (k:Nat) (D:DataW Unit),k<=l.length/\i=.int .i64 k/\wr.ownsMap Tryd.prog 3 (plainElem Tryd.prog 3) w.heap.size k D/\Below w.heap.size w wr/\Hid (∀ x,coefOf D x=coefL ((QD3 e0 s l).take k) x)) (fun i _=>l.length-(intOf i).toNat)
 case atStart=>exact⟨0,.map [],Nat.zero_le _,rfl,World.ownsMap_made _ _ _ _,(Below.refl _ _).alloc (Nat.le_refl _) _,fun x=>coefOf_none rfl⟩
 case round=>
  obtain⟨k,D,hk,rfl,hown,hb,hD⟩:=hrel
  by_cases hlt:k<l.length
  · have c0:=bcell hb hbw (HT.out k hlt).1
    have c1:=bcell hb hbw (HT.out k hlt).2
    have hok:=(okB_iff l k).1 (((may_iff l).1 HM.out).2 k hlt)
    have hsz:=hb.size
    have hbr:b<wr.heap.size:=Nat.lt_of_lt_of_le hbw hsz
    generalize he:(l.getD k (0,0)).1=e at c0 hok
    generalize hc:(l.getD k (0,0)).2=c at c1 hok
    have HS:Hid (∀ x,coefL ((QD3 e0 s l).take (k+1)) x=coefL ((QD3 e0 s l).take k) x+(if e-e0=x then s*c else 0)):=fun x=>by
     have g:(QD3 e0 s l).getD k (0,0)=(e-e0,s*c):=by
      have gl:l.getD k (0,0)=l[k]:=by simp[List.getD,hlt]
      rw[gl]at he hc
      simp[QD3,List.getD,hlt,he,hc]
     rw[QG7 _ k (by simpa[QD3] using hlt),g]
    have HB:Hid (∀ x,-64000000<=coefL ((QD3 e0 s l).take k) x/\coefL ((QD3 e0 s l).take k) x<=64000000):=fun x=>by
     have := XC4 ((QD3 e0 s l).take k) 1000000 x (fun t ht => by
      have ht2:=List.mem_of_mem_take ht
      simp only[QD3,List.mem_map]at ht2
      obtain⟨s,hs,rfl⟩:=ht2
      obtain⟨i,hi,rfl⟩:=List.getElem_of_mem hs
      have:=(okB_iff l i).1 (((may_iff l).1 HM.out).2 i hi)
      simp only[List.getD,List.getElem?_eq_getElem hi,Option.getD_some]at this
      exact Hmul.out _ this.2.2.1 this.2.2.2.1) (by decide)
     have hl:((QD3 e0 s l).take k).length<=64:=by simp[QD3];omega
     omega
    clear he hc
    obtain⟨o1,o2,o3,o4,o5,-⟩:=hok
    clear o5
    have hsc:=Hmul.out c o3 o4
    go_wp2_with (go_at_call 46;refine(Jq1 _ _ _ _ _ _ _ (by simp;omega) (by simp;omega) (Zd6 hb hp CP.out hsz _) (Zd6 hb hq CQ.out hsz _) o1 o2 he0 he1 hsc.1 hsc.2).mono ?_;rintro r w1 ⟨rfl,hb1⟩;refine Hid.out ?_)
    refine Lib.hid ?_
    have hT1:w1.heap[wr.heap.size]?=some (.cells #[.int .i64 e,.int .i64 c] 56 (0,0)):=(hb1.block _ (by simp)).trans Array.getElem?_push_size
    have d0:w1.cell? ⟨wr.heap.size,0,none⟩=some (.int .i64 e):=by unfold World.cell?;rw[hT1];rfl
    have d1:w1.cell? ⟨wr.heap.size,1,none⟩=some (.int .i64 c):=by unfold World.cell?;rw[hT1];rfl
    have f0:w1.frozen? ⟨wr.heap.size,0,none⟩=false:=by simp[World.frozen?,hT1]
    have f1:w1.frozen? ⟨wr.heap.size,1,none⟩=false:=by simp[World.frozen?,hT1]
    have hown1:w1.ownsMap Tryd.prog 3 (plainElem Tryd.prog 3) w.heap.size k D:=(hown.alloc _).kept (grown_below hb1 none) (by simp)
    have hnx1:Below w.heap.size w w1:=(hb.alloc hsz _).trans (hb1.mono (by simp;omega))
    have hBlt:=hown.lt
    clear hT1 hb1 c0 c1 hown
    go_wp2_with (first
     |(at_lookup;refine wpList_lookup_own_int _ rfl _ _ 50 rfl 3 3 .i64 law3 Tryd.underlying50 Tryd.underlying3 (zero3 _) w.heap.size k _ rfl (ZW0 hown1 (by omega) _ _ _ _) _ _ rfl (keyOf_int_mk Tryd.underlying3 (WalkArith.wf_i64 (by omega))) ?_;intro c' hat hwc;refine Hid.out ?_))
    refine Lib.hid ?_
    have hc':coefL ((QD3 e0 s l).take k) (e-e0)=c':=by rw[<-hD.out,coefOf_look hat]
    have hbd:=HB.out (e-e0)
    rw[hc']at hbd
    have HC':Hid (coefL ((QD3 e0 s l).take k) (e-e0)=c'):=hc'
    have hdm:=hown1.isMap
    clear hat hwc hc'
    go_wp2_with (first
     |(at_mapUpdate;refine wpList_mapUpdate_own _ rfl _ _ _ 50 rfl 3 3 law3 Tryd.underlying50 _ w.heap.size k _ rfl (ZW0 hown1 (by omega) _ _ _ _) (by unfold maxLen;omega) _ _ _ rfl rfl (keyOf_int_mk Tryd.underlying3 (WalkArith.wf_i64 (by omega))) _ [] (plainElem_int Tryd.underlying3 (WalkArith.wf_i64 (by omega))) ?_;intro w2 hown2 hg2;go_frame))
    go_roundw
    case rel=>
     refine⟨k+1,_,by omega,by go_num,hown2,((hnx1.setCell (by simp;omega) _).setCell (by simp;omega) _).grown hg2 (by have:=hnx1.size;simp[World.setCell];omega) (fun j hj=>by cases hj;exact Nat.le_refl _),fun x=>?_⟩
     rw[coefOf_put hdm,HS.out]
     by_cases hx:e-e0=x
     · rw[if_pos hx,if_pos hx,<-hx,HC'.out]
     · rw[if_neg hx,if_neg hx,hD.out];omega
    case measure=>simp[intOf];omega
  · obtain rfl:k=l.length:=by omega
    have hs:=size_le hown
    have htake:(QD3 e0 s l).take l.length=QD3 e0 s l:=List.take_of_length_le (by simp[QD3])
    have hD2:=hD.out
    rw[htake]at hD2
    have HD2:Hid _:=hD2
    clear hD hD2 htake
    go_wp2_with (go_at_call 19;refine(Zv1 w.heap.size l.length D _ hown (by omega)).mono ?_;rintro r w1 ⟨v,m,rfl,hrow,hcan,hml,hb1⟩)
    go_ret
    exact⟨v,m,rfl,Xj7 hrow hb.size,canon_congr hcan HD2.out,by omega,hb.trans (hb1.mono hb.size)⟩
end Go.Proofs.YtjcagkgpbcdghaaDoor.Poly
/- The walks of poly.Flip and poly.Unit: they answer what the document's own functions answer. -/
namespace Go.Proofs.YtjcagkgpbcdghaaDoor.Poly
open Go.RowKit Go.Maps
set_option maxHeartbeats 1000000
set_option maxRecDepth 100000
theorem XB8 {l:List (Int×Int)} (hm:mayB l=true):l.Pairwise (fun a b=>a.1<b.1):=by
 have step:∀ i,(h:i+1<l.length)->l[i].1<l[i+1].1:=fun i h=>by
  have:=((okB_iff l (i+1)).1 (((may_iff l).1 hm).2 (i+1) h)).2.2.2.2.2 (by omega)
  simpa[List.getD,h,show i<l.length by omega] using this
 rw[List.pairwise_iff_getElem]
 intro i j hi hj hij
 obtain⟨d,rfl⟩:∃ d,j=i+1+d:=⟨j - (i+1),by omega⟩
 clear hij
 induction d with
 |zero=>exact step i hj
 |succ d ih=>
  have h1:=ih (by omega)
  have h2:=step (i+1+d) (by omega)
  exact Int.lt_trans h1 h2
theorem XV4 {l:List (Int×Int)} (hm:mayB l=true):∀ t∈l,t.2≠0:=by
 intro t ht
 obtain⟨i,hi,rfl⟩:=List.getElem_of_mem ht
 have:=((okB_iff l i).1 (((may_iff l).1 hm).2 i hi)).2.2.2.2.1
 simpa[List.getD,hi] using this
theorem Kd5 {l:List (Int×Int)} {e0 c0 s:Int} (he:(l.getD 0 (0,0)).1=e0) (hc:(l.getD 0 (0,0)).2=c0) (hs:(c0<0/\s = -1)∨(¬ c0<0/\s=1)):QD3 e0 s l=unitL l:=by
 unfold QD3 unitL
 rw[he,hc]
 apply List.map_congr_left
 intro t _
 rcases hs with⟨h,rfl⟩|⟨h,rfl⟩
 · rw[if_pos h];simp
 · rw[if_neg h];simp
theorem Zq3 {l:List (Int×Int)} (hm:mayB l=true):Canon (unitL l) (coefL (unitL l)):=by
 refine Zq4 ?_ ?_
 · unfold unitL
   rw[List.pairwise_map]
   exact(XB8 hm).imp fun h=>by show _-_<_-_;omega
 · intro t ht
   simp only[unitL,List.mem_map]at ht
   obtain⟨s,hs,rfl⟩:=ht
   have:=XV4 hm s hs
   simp only
   split
   · omega
   · exact this
theorem Zg3 (a : Option Addr) (cap : Nat) (w : World) :
    Calls Tryd.prog 21 #[.slice a 0 cap] w fun e w'=>e=.returned (.tuple #[.slice none 0 0,.int .i64 0])/\Below w.heap.size w w':=by
 go_enter Tryd.func21,Tryd.ntmps21
 go_wp2_with (go_at_call 44;refine(XZ9 _ _ _).mono ?_;rintro r w1 ⟨rfl,hb1⟩)
 go_ret2
 exact⟨rfl,hb1⟩
theorem JV4 (w : World) (x y : Value) : ((w.alloc (.cells #[x] 3)).alloc (.cells #[y] 3)).cell? ⟨w.heap.size, 0, none⟩ = some x ∧ ((w.alloc (.cells #[x] 3)).alloc (.cells #[y] 3)).cell? ⟨w.heap.size + 1, 0, none⟩ = some y ∧
    ((w.alloc (.cells #[x] 3)).alloc (.cells #[y] 3)).heap.size=w.heap.size+2/\Below w.heap.size w ((w.alloc (.cells #[x] 3)).alloc (.cells #[y] 3)):=by
 have hs:(w.alloc (.cells #[x] 3)).heap.size=w.heap.size+1:=by simp
 have h1:(w.alloc (.cells #[x] 3)).heap[w.heap.size]?=some (.cells #[x] 3 (0,0)):=Array.getElem?_push_size
 have h2:((w.alloc (.cells #[x] 3)).alloc (.cells #[y] 3)).heap[w.heap.size]?=some (.cells #[x] 3 (0,0)):=(Below.heap_alloc _ _ _ (by omega)).trans h1
 have h3:((w.alloc (.cells #[x] 3)).alloc (.cells #[y] 3)).heap[w.heap.size+1]?=some (.cells #[y] 3 (0,0)):=by
  rw[<-hs];exact Array.getElem?_push_size
 refine⟨?_,?_,by simp,((Below.refl _ _).alloc (Nat.le_refl _) _).alloc (by simp) _⟩
 · unfold World.cell?;rw[h2];rfl
 · unfold World.cell?;rw[h3];rfl
theorem Xz9 (b off cap : Nat) (e0 s : Int) (l : List (Int × Int)) (w : World) (hm : mayB l = true) (hbw : b < w.heap.size) (hT : TermsAt w b off l) (he0 : -1000 ≤ e0) (he1 : e0 ≤ 1000) (hs1 : s = 1 ∨ s = -1) (hu : QD3 e0 s l = unitL l) :
    Calls Tryd.prog 45 #[.slice (some ⟨b,off,none⟩) l.length cap,.func (.func 46) #[] #[.pointer (some ⟨w.heap.size,0,none⟩),.pointer (some ⟨w.heap.size+1,0,none⟩)]] ((w.alloc (.cells #[.int .i64 e0] 3)).alloc (.cells #[.int .i64 s] 3)) fun e w'=>
     ∃ v',e=.returned v'/\Poly w' w'.heap.size v' (unitL l)/\Below w.heap.size w w':=by
 obtain⟨c0,c1,hsz,hb⟩:=JV4 w (.int .i64 e0) (.int .i64 s)
 refine(Xy2 b off cap _ _ e0 s l _ hm (by omega) (hT.on hb hbw) (by omega) (by omega) c0 c1 he0 he1 hs1).mono ?_
 rintro e w' ⟨v,r,rfl,hrow,hcan,_,hb2⟩
 rw[hu]at hcan
 obtain rfl:=canon_unique hcan (Zq3 hm)
 exact⟨v,rfl,Poly.ofRow hrow,hb.trans (hb2.mono (by omega))⟩
theorem Zg2 (b off cap : Nat) (l : List (Int × Int)) (w : World) (hpos : 0 < l.length) (hm : mayB l = true) (hbw : b < w.heap.size) (hT : TermsAt w b off l) :
    Calls Tryd.prog 21 #[.slice (some ⟨b,off,none⟩) l.length cap] w fun e w'=>∃ v',e=.returned (.tuple #[v',.int .i64 0])/\Poly w' w'.heap.size v' (unitL l)/\Below w.heap.size w w':=by
 have hl64:=((may_iff l).1 hm).1
 have HL:Hid (l.length<=maxLen):=by show _<=_;unfold maxLen;omega
 have HM:Hid (mayB l=true):=hm
 have HT:Hid (TermsAt w b off l):=hT
 have hok:=(okB_iff l 0).1 (((may_iff l).1 hm).2 0 hpos)
 obtain⟨c0,c1⟩:=hT 0 hpos
 simp only[Nat.zero_mul,Nat.add_zero]at c0 c1
 generalize he:(l.getD 0 (0,0)).1=e0 at c0 hok
 generalize hc:(l.getD 0 (0,0)).2=k0 at c1 hok
 have HE:Hid (∀ s,(k0<0/\s = -1)∨(¬ k0<0/\s=1)->QD3 e0 s l=unitL l):=fun s hs=>Kd5 he hc hs
 clear he hc hm hT
 obtain⟨o1,o2,o3,o4,o5,-⟩:=hok
 clear o5
 have h0:((l.length:Int)==0)=false:=beq_eq_false_iff_ne.2 (by omega)
 by_cases hneg:k0<0
 · have HU:Hid _:=HE.out (-1) (Or.inl ⟨hneg,rfl⟩)
   go_enter Tryd.func21,Tryd.ntmps21
   go_wp2_with (first|(go_at_call 44;refine(XK0 b off cap l _ HL.out hbw HT.out).mono ?_;rw[HM.out];rintro r w1 ⟨rfl,hb1⟩;have q0:=bcell hb1 hbw c0;have q1:=bcell hb1 hbw c1;have hs1:=hb1.size;have hbr:b<w1.heap.size:=Nat.lt_of_lt_of_le hbw hs1)|(go_at_call 45;refine(Xz9 b off cap e0 (-1) l w1 HM.out hbr (HT.out.on hb1 hbw) o1 o2 (by decide) HU.out).mono ?_;rintro r w2 ⟨v2,rfl,hP2,hb2⟩))
   go_ret2
   exact⟨v2,rfl,hP2,hb1.trans (hb2.mono hs1)⟩
 · have HU:Hid _:=HE.out (1) (Or.inr ⟨hneg,rfl⟩)
   go_enter Tryd.func21,Tryd.ntmps21
   go_wp2_with (first|(go_at_call 44;refine(XK0 b off cap l _ HL.out hbw HT.out).mono ?_;rw[HM.out];rintro r w1 ⟨rfl,hb1⟩;have q0:=bcell hb1 hbw c0;have q1:=bcell hb1 hbw c1;have hs1:=hb1.size;have hbr:b<w1.heap.size:=Nat.lt_of_lt_of_le hbw hs1)|(go_at_call 45;refine(Xz9 b off cap e0 (1) l w1 HM.out hbr (HT.out.on hb1 hbw) o1 o2 (by decide) HU.out).mono ?_;rintro r w2 ⟨v2,rfl,hP2,hb2⟩))
   go_ret2
   exact⟨v2,rfl,hP2,hb1.trans (hb2.mono hs1)⟩
theorem unit_yes (v : Value) (l : List (Int × Int)) (w : World) (hm : mayB l = true) (hP : Poly w w.heap.size v l) :
    Calls Tryd.prog 21 #[v] w fun e w'=>∃ v',e=.returned (.tuple #[v',.int .i64 0])/\Poly w' w'.heap.size v' (unitL l)/\Below w.heap.size w w':=by
 obtain⟨a,cap,rfl,hp⟩:=hP.slice
 rcases Nat.eq_zero_or_pos l.length with h0|h0
 · have e0:l=[]:=List.length_eq_zero_iff.1 h0
   subst e0
   exact(Zg3 a cap w).mono fun e w' ⟨h1,h2⟩=>⟨_,h1,Or.inl ⟨rfl,rfl⟩,h2⟩
 · obtain⟨b,off,rfl,hlt,hT⟩:=hp h0
   exact Zg2 b off cap l w h0 hm hlt hT
end Go.Proofs.YtjcagkgpbcdghaaDoor.Poly
/- The walk of poly.collected: a polynomial's terms in a map. -/
namespace Go.Proofs.YtjcagkgpbcdghaaDoor.Poly
open Go.RowKit Go.Maps
set_option maxHeartbeats 2000000
set_option maxRecDepth 100000
def QX5 (D:DataW Unit) (N:Int):Prop:=∀ x,Maps.has D (.int .i64 x)=true -> -N<=x/\x<=N
theorem QW1 {D:DataW Unit} {N x:Int} (h:QX5 D N) (h0 : -N<=x) (h1:x<=N) (d:DataW Unit):QX5 (D.put (.int .i64 x) d) N:=by
 intro y hy
 by_cases e:y=x
 · subst e;exact⟨h0,h1⟩
 · rw[has_put_other (by intro e';cases e';exact e rfl)]at hy
   exact h y hy
theorem XA3 {l:List (Int×Int)} (hm:mayB l=true):∀ t∈l,-1000<=t.1/\t.1<=1000 /\ -1000000<=t.2/\t.2<=1000000:=by
 intro t ht
 obtain⟨i,hi,rfl⟩:=List.getElem_of_mem ht
 have:=(okB_iff l i).1 (((may_iff l).1 hm).2 i hi)
 simp only[List.getD,List.getElem?_eq_getElem hi,Option.getD_some]at this
 exact⟨this.1,this.2.1,this.2.2.1,this.2.2.2.1⟩
theorem XU4 (b off cap : Nat) (l : List (Int × Int)) (w : World) (hm : mayB l = true) (hbw : b < w.heap.size) (hT : TermsAt w b off l) :
    Calls Tryd.prog 53 #[.slice (some ⟨b,off,none⟩) l.length cap] w fun e w'=>∃ D:DataW Unit,e=.returned (.map (some w.heap.size))/\w'.ownsMap Tryd.prog 3 (plainElem Tryd.prog 3) w.heap.size l.length D/\(∀ x,coefOf D x=coefL l x)/\QX5 D 1000/\Below w.heap.size w w':=by
 have hl64:=((may_iff l).1 hm).1
 have HM:Hid (mayB l=true):=hm
 have HT:Hid (TermsAt w b off l):=hT
 have hmm:=ZZ8 l.length
 clear hm hT
 go_enter Tryd.func53,Tryd.ntmps53
 go_wp2
 go_loopw [11] (fun i wr=>∃ (k:Nat) (D:DataW Unit),k<=l.length/\i=.int .i64 k/\wr.ownsMap Tryd.prog 3 (plainElem Tryd.prog 3) w.heap.size k D/\Below w.heap.size w wr/\Hid (∀ x,coefOf D x=coefL (l.take k) x)/\Hid (QX5 D 1000)) (fun i _=>l.length-(intOf i).toNat)
 case atStart=>exact⟨0,.map [],Nat.zero_le _,rfl,World.ownsMap_made _ _ _ _,(Below.refl _ _).alloc (Nat.le_refl _) _,fun x=>coefOf_none rfl,fun x hx=>by cases hx⟩
 case round=>
  obtain⟨k,D,hk,rfl,hown,hb,hD,hK⟩:=hrel
  by_cases hlt:k<l.length
  · have c0:=bcell hb hbw (HT.out k hlt).1
    have c1:=bcell hb hbw (HT.out k hlt).2
    have hok:=(okB_iff l k).1 (((may_iff l).1 HM.out).2 k hlt)
    have hsz:=hb.size
    have hbr:b<wr.heap.size:=Nat.lt_of_lt_of_le hbw hsz
    have HS0:=QG7 l k hlt
    generalize he:(l.getD k (0,0)).1=e at c0 hok HS0
    generalize hc:(l.getD k (0,0)).2=c at c1 hok HS0
    have HS:Hid (∀ x,coefL (l.take (k+1)) x=coefL (l.take k) x+(if e=x then c else 0)):=HS0
    have HB:Hid (∀ x,-64000000<=coefL (l.take k) x/\coefL (l.take k) x<=64000000):=fun x=>by
     have:=XC4 (l.take k) 1000000 x (fun t ht=>(XA3 HM.out t (List.mem_of_mem_take ht)).2.2) (by decide)
     have hl:(l.take k).length<=64:=by simp;omega
     omega
    clear he hc HS0
    obtain⟨o1,o2,o3,o4,o5,-⟩:=hok
    clear o5
    have hBlt:=hown.lt
    go_wp2_with (first
     |(at_lookup;refine wpList_lookup_own_int _ rfl _ _ 50 rfl 3 3 .i64 law3 Tryd.underlying50 Tryd.underlying3 (zero3 _) w.heap.size k _ rfl (hown.alloc _) _ _ rfl (keyOf_int_mk Tryd.underlying3 (WalkArith.wf_i64 (by omega))) ?_;intro c' hat hwc;refine Hid.out ?_))
    refine Lib.hid ?_
    have hc':coefL (l.take k) e=c':=by rw[<-hD.out,coefOf_look hat]
    have hbd:=HB.out e
    rw[hc']at hbd
    have HC':Hid (coefL (l.take k) e=c'):=hc'
    have hdm:=hown.isMap
    clear hat hwc hc'
    go_wp2_with (first
     |(at_mapUpdate;refine wpList_mapUpdate_own _ rfl _ _ _ 50 rfl 3 3 law3 Tryd.underlying50 _ w.heap.size k _ rfl (hown.alloc _) (by unfold maxLen;omega) _ _ _ rfl rfl (keyOf_int_mk Tryd.underlying3 (WalkArith.wf_i64 (by omega))) _ [] (plainElem_int Tryd.underlying3 (WalkArith.wf_i64 (by omega))) ?_;intro w2 hown2 hg2;go_frame))
    go_roundw
    case rel=>
     refine⟨k+1,_,by omega,by go_num,hown2,(hb.alloc hsz _).grown hg2 (by simp;omega) (fun j hj=>by cases hj;exact Nat.le_refl _),fun x=>?_,QW1 hK.out o1 o2 _⟩
     rw[coefOf_put hdm,HS.out]
     by_cases hx:e=x
     · rw[if_pos hx,if_pos hx,<-hx,HC'.out]
     · rw[if_neg hx,if_neg hx,hD.out];omega
    case measure=>simp[intOf];omega
  · obtain rfl:k=l.length:=by omega
    have htake:l.take l.length=l:=List.take_of_length_le (Nat.le_refl _)
    have hD2:=hD.out
    rw[htake]at hD2
    have HD2:Hid _:=hD2
    clear hD hD2 htake
    go_wp2
    go_ret
    exact⟨D,rfl,hown,HD2.out,hK.out,hb⟩
theorem Qz9 (a : Option Addr) (cap : Nat) (w : World) :
    Calls Tryd.prog 53 #[.slice a 0 cap] w fun e w'=>e=.returned (.map (some w.heap.size))/\w'.ownsMap Tryd.prog 3 (plainElem Tryd.prog 3) w.heap.size 0 (.map []:DataW Unit)/\Below w.heap.size w w':=by
 have hmm:=ZZ8 0
 simp only[Int.natCast_zero]at hmm
 go_enter Tryd.func53,Tryd.ntmps53
 go_wp2
 go_loopw [11] (fun i wr=>i=.int .i64 0/\wr.ownsMap Tryd.prog 3 (plainElem Tryd.prog 3) w.heap.size 0 (.map []:DataW Unit)/\Below w.heap.size w wr) (fun _ _=>0)
 case atStart=>exact⟨rfl,World.ownsMap_made _ _ _ _,(Below.refl _ _).alloc (Nat.le_refl _) _⟩
 case round=>
  obtain⟨rfl,hown,hb⟩:=hrel
  go_wp2
  go_ret
  exact⟨rfl,hown,hb⟩
theorem Qz8 (v : Value) (l : List (Int × Int)) (w : World) (hm : mayB l = true) (hP : Poly w w.heap.size v l) :
    Calls Tryd.prog 53 #[v] w fun e w'=>∃ D:DataW Unit,e=.returned (.map (some w.heap.size))/\w'.ownsMap Tryd.prog 3 (plainElem Tryd.prog 3) w.heap.size l.length D/\(∀ x,coefOf D x=coefL l x)/\QX5 D 1000/\Below w.heap.size w w':=by
 rcases hP with⟨rfl,rfl⟩|⟨a,cap,rfl,rfl⟩|⟨b,off,cap,rfl,hlt,hT⟩
 · exact(Qz9 none 0 w).mono fun e w' ⟨h1,h2,h3⟩=>⟨_,h1,h2,fun x=>coefOf_none rfl,fun x hx=>(by cases hx),h3⟩
 · exact(Qz9 (some a) cap w).mono fun e w' ⟨h1,h2,h3⟩=>⟨_,h1,h2,fun x=>coefOf_none rfl,fun x hx=>(by cases hx),h3⟩
 · exact XU4 b off cap l w hm hlt hT
end Go.Proofs.YtjcagkgpbcdghaaDoor.Poly
/- The walk of (poly.work).plus: the sum of two maps, as a new one. -/
namespace Go.Proofs.YtjcagkgpbcdghaaDoor.Poly
open Go.RowKit Go.Maps
set_option maxHeartbeats 4000000
set_option maxRecDepth 100000
theorem Xf0 (n:Int) (w:World):(Instr.makeMap 50 (some (.int .i64 n))).run Tryd.prog w=.ok (.map (some w.heap.size)) (w.alloc (.map #[] 0)):=rfl
def part (left:Lit->Bool) (f:Int->Int) (x:Int):Int:=if left (.int .i64 x) then 0 else f x
theorem QB5 (D:DataW Unit) (x:Int):part (Maps.has D) (coefOf D) x=0:=by
 unfold part
 split
 · rfl
 · rename_i h
   exact coefOf_none (by simpa using h)
theorem QB9 (left:Lit->Bool) (f:Int->Int) (x y:Int):part (fun z=>left z&&!z.sameKey (.int .i64 x)) f y=if x=y then f x else part left f y:=by
 unfold part
 by_cases h:x=y
 · subst h
   have:(left (.int .i64 x)&&!(Lit.int .i64 x).sameKey (.int .i64 x))=false:=(QU2 left x x).2 (Or.inr rfl)
   simp only[this]
   simp
 · rw[if_neg h]
   cases hy:left (.int .i64 y) with
   |false=>
    have:(left (.int .i64 y)&&!(Lit.int .i64 y).sameKey (.int .i64 x))=false:=(QU2 left x y).2 (Or.inl hy)
    simp only[this]
   |true=>
    have:(left (.int .i64 y)&&!(Lit.int .i64 y).sameKey (.int .i64 x))=true:=by
     cases hh:(left (.int .i64 y)&&!(Lit.int .i64 y).sameKey (.int .i64 x)) with
     |true=>rfl
     |false=>
      rcases(QU2 left x y).1 hh with h1|h1
      · rw[hy]at h1;cases h1
      · exact absurd h1.symm h
    rw[if_pos this]
    rfl
theorem XQ7 {left:Lit->Bool} {f:Int->Int} {x:Int} (hl:left (.int .i64 x)=true):part left f x=0:=by unfold part;rw[if_pos hl]
theorem QA3 {left:Lit->Bool} {f:Int->Int} (hl:∀ kl,left kl=false) (x:Int):part left f x=f x:=by unfold part;rw[hl];rfl
theorem Qh8 {w w':World} {B b n:Nat} {D:DataW Unit} (h:w.ownsMap Tryd.prog 3 (plainElem Tryd.prog 3) b n D) (hb:Below B w w') (hlt:b<B):w'.ownsMap Tryd.prog 3 (plainElem Tryd.prog 3) b n D:=by
 obtain⟨es,clock,hh,rest⟩:=h
 exact⟨es,clock,(hb.block b hlt).trans hh,rest⟩
theorem XQ1 {D:DataW Unit} {x c:Int} (hat:∀ zd,D.atKey (.int .i64 x) zd=.lit (.int .i64 c)):Maps.has D (.int .i64 x)=true:=has_true_of_atKey hat
theorem JF8 (bp np bq nq : Nat) (Dp Dq : DataW Unit) (w : World) (hp : w.ownsMap Tryd.prog 3 (plainElem Tryd.prog 3) bp np Dp) (hq : w.ownsMap Tryd.prog 3 (plainElem Tryd.prog 3) bq nq Dq) (hnp : np ≤ 64) (hnq : nq ≤ 64)
    (hkq:QX5 Dq 1000) (hbp:∀ x,-1000000<=coefOf Dp x/\coefOf Dp x<=1000000) (hbq:∀ x,-1000000<=coefOf Dq x/\coefOf Dq x<=1000000):
    Calls Tryd.prog 55 #[.map (some bp),.map (some bq)] w fun e w'=>∃ D:DataW Unit,e=.returned (.map (some w.heap.size))/\w'.ownsMap Tryd.prog 3 (plainElem Tryd.prog 3) w.heap.size 128 D/\(∀ x,coefOf D x=coefOf Dp x+coefOf Dq x)/\Below w.heap.size w w':=by
 have hmm:=fun n=>Xf0 n
 have hlp:=hp.lt
 have hlq:=hq.lt
 have hsp:=size_le hp
 have hsq:=size_le hq
 have HKQ:Hid _:=hkq
 have HBP:Hid _:=hbp
 have HBQ:Hid _:=hbq
 clear hkq hbp hbq
 have e1:(w.alloc (.map #[] 0)).heap.size=w.heap.size+1:=by simp
 go_enter Tryd.func55,Tryd.ntmps55
 go_wp2_with (first
  |(at_len;refine wpList_len_own _ rfl _ 50 rfl 3 3 Tryd.underlying50 _ bp np _ rfl hp ?_)
  |(at_len;refine wpList_len_own _ rfl _ 50 rfl 3 3 Tryd.underlying50 _ bq nq _ rfl hq ?_)
  |(at_range;refine wpList_range_own _ rfl _ 50 rfl 3 3 law3 Tryd.underlying50 _ bp np _ rfl (hp.alloc _) ?_;intro w0 hrg0 hg0 hs0))
 go_frame
 rw[e1]at hrg0 hs0 ⊢
 go_loopw [6, 7] (fun _ _ wr => ∃ (left : Lit → Bool) (cnt k : Nat) (D : DataW Unit), wr.ranges Tryd.prog 3 (plainElem Tryd.prog 3) bp (w.heap.size + 1) np Dp left cnt ∧ k + cnt ≤ np ∧
     wr.ownsMap Tryd.prog 3 (plainElem Tryd.prog 3) w.heap.size k D/\Hid (∀ x,coefOf D x=part left (coefOf Dp) x)/\Below w.heap.size w wr)
  (fun _ _ wr=>wr.rangeLeft bp (w.heap.size+1))
 case atStart=>
  exact⟨_,_,0,.map [],hrg0,by omega,(World.ownsMap_made _ _ _ _).kept hg0 (by simp),fun x=>by rw[QB5];exact coefOf_none rfl,((Below.refl _ _).alloc (Nat.le_refl _) _).grown hg0 (by simp) (fun j hj=>by cases hj)⟩
 case round=>
  clear hrg0 hg0 hs0
  rename World=>W1
  obtain⟨left,cnt,k,D,hrg,hcs,hout,hD,hnx⟩:=hrel
  go_wp2_with (first
   |(at_next;refine wpList_next_ranges_ii _ rfl _ rfl 3 3 .i64 .i64 law3 Tryd.underlying3 Tryd.underlying3 bp (w.heap.size+1) np _ _ _ rfl hrg ?_ ?_)
   |go_in)
  · intro hc0 hl0
    have hD2:Hid (∀ x,coefOf D x=coefOf Dp x):=fun x=>by rw[hD.out,QA3 hl0]
    have hq2:=Qh8 hq hnx hlq
    have hlr:=hq2.lt
    have hsz:=hnx.size
    have hol:=hout.lt
    clear hD hc0 hl0
    go_wp2_with (first
     |(at_range;refine wpList_range_own _ rfl _ 50 rfl 3 3 law3 Tryd.underlying50 _ bq nq _ rfl hq2 ?_;intro w2 hrg2 hg2 hs2))
    go_frame
    go_loopw [8, 9] (fun _ _ ws => ∃ (left : Lit → Bool) (cnt k : Nat) (D : DataW Unit), ws.ranges Tryd.prog 3 (plainElem Tryd.prog 3) bq W1.heap.size nq Dq left cnt ∧ k + cnt ≤ np + nq ∧
        ws.ownsMap Tryd.prog 3 (plainElem Tryd.prog 3) w.heap.size k D/\Hid (∀ x,coefOf D x=coefOf Dp x+part left (coefOf Dq) x)/\Below w.heap.size w ws)
     (fun _ _ ws=>ws.rangeLeft bq W1.heap.size)
    case atStart=>
     exact⟨_,_,k,D,hrg2,by omega,hout.kept hg2 (by simp),fun x=>by rw[QB5,hD2.out];omega,hnx.grown hg2 hsz (fun j hj=>by cases hj)⟩
    case round=>
     clear hrg2 hg2 hs2 hout hnx hrg
     obtain⟨left,cnt,k,D,hrg,hcs,hout,hD,hnx⟩:=hrel
     go_wp2_with (first
      |(at_next;refine wpList_next_ranges_ii _ rfl _ rfl 3 3 .i64 .i64 law3 Tryd.underlying3 Tryd.underlying3 bq W1.heap.size nq _ _ _ rfl hrg ?_ ?_)
      |go_in)
     · intro hc0 hl0
       go_wp2
       go_ret
       exact⟨D,rfl,hout.mono (by omega),fun x=>by rw[hD.out,QA3 hl0],hnx⟩
     · intro x c w1 cnt1 hwx hwc hlx hat hrg1 hlt hg1 hs1 hen
       have hout1:=hout.kept hg1 (by intro e;have:=Option.some.inj e;omega)
       have hnx1:Below w.heap.size w w1:=hnx.grown hg1 hnx.size (fun j hj=>by cases hj;exact hsz)
       have hx:=HKQ.out x (XQ1 hat)
       have hcq:=HBQ.out x
       have hcp:=HBP.out x
       rw[coefOf_at hat]at hcq
       have HX:Hid (coefOf Dq x=c/\coefOf D x=coefOf Dp x):=⟨coefOf_at hat,by rw[hD.out,XQ7 hlx];omega⟩
       have HL:Hid _:=hlx
       have hdm:=hout.isMap
       clear hat hlx
       go_wp2_with (first
        |(at_lookup;refine wpList_lookup_own_int _ rfl _ _ 50 rfl 3 3 .i64 law3 Tryd.underlying50 Tryd.underlying3 (zero3 _) w.heap.size k _ rfl hout1 _ _ rfl (keyOf_int_mk Tryd.underlying3 (WalkArith.wf_i64 (by omega))) ?_;intro c' hat hwc;refine Hid.out ?_))
       refine Lib.hid ?_
       have hc':coefOf D x=c':=coefOf_look hat
       have hbd : -1000000<=c'/\c'<=1000000:=by rw[<-hc',HX.out.2];exact hcp
       have HC':Hid (coefOf D x=c'):=hc'
       clear hat hwc hc'
       go_wp2_with (first
        |(at_mapUpdate;refine wpList_mapUpdate_own _ rfl _ _ _ 50 rfl 3 3 law3 Tryd.underlying50 _ w.heap.size k _ rfl hout1 (by unfold maxLen;omega) _ _ _ rfl rfl (keyOf_int_mk Tryd.underlying3 (WalkArith.wf_i64 (by omega))) _ [] (plainElem_int Tryd.underlying3 (WalkArith.wf_i64 (by omega))) ?_;intro w3 hown3 hg3;go_frame))
       have hrg3:=hrg1.kept hg3 (fun e=>by have:=Option.some.inj e;omega) (fun e=>by have:=Option.some.inj e;omega)
       go_roundw
       case rel=>
        refine⟨_,cnt1,k+1,_,hrg3,by omega,hown3,fun y=>?_,hnx1.grown hg3 hnx1.size (fun j hj=>by cases hj;exact Nat.le_refl _)⟩
        rw[coefOf_put hdm,QB9]
        by_cases hxy:x=y
        · rw[if_pos hxy,if_pos hxy,<-HC'.out,HX.out.1,HX.out.2,hxy]
        · rw[if_neg hxy,if_neg hxy,hD.out]
       case measure=>rw[hrg3.left_eq,hrg.left_eq];exact hlt
  · intro x c w1 cnt1 hwx hwc hlx hat hrg1 hlt hg1 hs1 hen
    have hout1:=hout.kept hg1 (by simp)
    have hnx1:Below w.heap.size w w1:=hnx.grown hg1 hnx.size (fun j hj=>by cases hj;omega)
    have HX:Hid (coefOf Dp x=c):=coefOf_at hat
    have HL:Hid _:=hlx
    have hdm:=hout.isMap
    clear hat hlx
    go_wp2_with (first
     |(at_mapUpdate;refine wpList_mapUpdate_own _ rfl _ _ _ 50 rfl 3 3 law3 Tryd.underlying50 _ w.heap.size k _ rfl hout1 (by unfold maxLen;omega) _ _ _ rfl rfl (keyOf_int_mk Tryd.underlying3 hwx) _ [] (plainElem_int Tryd.underlying3 hwc) ?_;intro w2 hout2 hg2;go_frame))
    have hrg2:=hrg1.kept hg2 (fun e=>by have:=Option.some.inj e;omega) (fun e=>by have:=Option.some.inj e;omega)
    go_roundw
    case rel=>
     refine⟨_,cnt1,k+1,_,hrg2,by omega,hout2,fun y=>?_,hnx1.grown hg2 hnx1.size (fun j hj=>by cases hj;exact Nat.le_refl _)⟩
     rw[coefOf_put hdm,QB9]
     by_cases hxy:x=y
     · rw[if_pos hxy,if_pos hxy,HX.out]
     · rw[if_neg hxy,if_neg hxy,hD.out]
    case measure=>rw[hrg2.left_eq,hrg.left_eq];exact hlt
end Go.Proofs.YtjcagkgpbcdghaaDoor.Poly
/- The walk of (poly.work).times: the product of two maps, as a new one. -/
namespace Go.Proofs.YtjcagkgpbcdghaaDoor.Poly
open Go.RowKit Go.Maps
def QQ5:List (Int×Int)->(Int->Int)->Int->Int
 |[],_,_=>0
 |t::ts,g,y=>t.2*g (y-t.1)+QQ5 ts g y
theorem Qq2 (a b:List (Int×Int)) (g:Int->Int) (y:Int):QQ5 (a++b) g y=QQ5 a g y+QQ5 b g y:=by
 induction a with
 |nil=>simp[QQ5]
 |cons t a ih=>simp only[List.cons_append,QQ5,ih];omega
end Go.Proofs.YtjcagkgpbcdghaaDoor.Poly
/- The walks of poly.combined, poly.Add and poly.Mul. -/
namespace Go.Proofs.YtjcagkgpbcdghaaDoor.Poly
open Go.RowKit Go.Maps
set_option maxHeartbeats 1000000
set_option maxRecDepth 100000
theorem Zd1 {D:DataW Unit} {l:List (Int×Int)} (hm:mayB l=true) (h:∀ x,coefOf D x=coefL l x):∀ x,-1000000<=coefOf D x/\coefOf D x<=1000000:=by
 intro x
 rw[h]
 by_cases h0:coefL l x=0
 · rw[h0];omega
 · have:=(QG4 ((XB8 hm).imp fun h=>by omega) (XV4 hm) x (coefL l x)).2 ⟨rfl,h0⟩
   exact(XA3 hm _ this).2.2
theorem Xy0 (v1 v2 : Value) (l1 l2 : List (Int × Int)) (w : World) (hm1 : mayB l1 = true) (hm2 : mayB l2 = true) (hP1 : Poly w w.heap.size v1 l1) (hP2 : Poly w w.heap.size v2 l2) :
    Calls Tryd.prog 95 #[v1,v2,.func (.func 55) #[] #[]] w fun e w'=>∃ v r,e=.returned (.tuple #[v,.int .i64 0])/\w'.ownsRow w.heap.size 56 2 v r.length (flat r)/\Canon r (fun x=>coefL l1 x+coefL l2 x)/\r.length<=128/\Below w.heap.size w w':=by
 have h164:=((may_iff l1).1 hm1).1
 have h264:=((may_iff l2).1 hm2).1
 have HP1:Hid (Poly w w.heap.size v1 l1):=hP1
 have HP2:Hid (Poly w w.heap.size v2 l2):=hP2
 have HL1:Hid (l1.length<=maxLen):=by show _<=_;unfold maxLen;omega
 have HL2:Hid (l2.length<=maxLen):=by show _<=_;unfold maxLen;omega
 have HM1:Hid (mayB l1=true):=hm1
 have HM2:Hid (mayB l2=true):=hm2
 clear hP1 hP2 hm1 hm2
 go_enter Tryd.func95,Tryd.ntmps95
 go_wp2_with (go_at_call 44;refine(XB9 _ l1 _ HL1.out HP1.out).mono ?_;rw[HM1.out];rintro r w1 ⟨rfl,hb1⟩;refine Hid.out ?_)
 refine Lib.hid ?_
 go_wp2_with (go_at_call 44;refine(XB9 _ l2 _ HL2.out (HP2.out.up hb1)).mono ?_;rw[HM2.out];rintro r w2 ⟨rfl,hb2⟩;refine Hid.out ?_)
 refine Lib.hid ?_
 have hB2:=hb1.trans (hb2.mono hb1.size)
 go_wp2_with (go_at_call 53;refine(Qz8 _ l1 _ HM1.out (HP1.out.up hB2)).mono ?_;rintro r w3 ⟨D1,rfl,hown1,hc1,hk1,hb3⟩;refine Hid.out ?_)
 refine Lib.hid ?_
 have hB3:=hB2.trans (hb3.mono hB2.size)
 go_wp2_with (go_at_call 53;refine(Qz8 _ l2 _ HM2.out (HP2.out.up hB3)).mono ?_;rintro r w4 ⟨D2,rfl,hown2,hc2,hk2,hb4⟩;refine Hid.out ?_)
 refine Lib.hid ?_
 have hB4:=hB3.trans (hb4.mono hB3.size)
 have hown1':=Qh8 hown1 hb4 hown1.lt
 go_wp2_with (go_at_call 55;refine(JF8 _ _ _ _ D1 D2 _ hown1' hown2 h164 h264 hk2 (Zd1 HM1.out hc1) (Zd1 HM2.out hc2)).mono ?_;rintro r w5 ⟨D,rfl,hown,hc,hb5⟩;refine Hid.out ?_)
 refine Lib.hid ?_
 have hB5:=hB4.trans (hb5.mono hB4.size)
 have hs:=size_le hown
 have HC:Hid (∀ x,coefOf D x=coefL l1 x+coefL l2 x):=fun x=>by rw[hc,hc1,hc2]
 clear hc hc1 hc2 hk1 hk2
 go_wp2_with (go_at_call 19;refine(Zv1 _ _ D _ hown (by omega)).mono ?_;rintro r w6 ⟨v,m,rfl,hrow,hcan,hml,hb6⟩)
 go_ret2
 exact⟨v,m,rfl,Xj7 hrow hB5.size,canon_congr hcan HC.out,by omega,hB5.trans (hb6.mono hB5.size)⟩
theorem add_yes (v1 v2 : Value) (l1 l2 : List (Int × Int)) (w : World) (hm1 : mayB l1 = true) (hm2 : mayB l2 = true) (hP1 : Poly w w.heap.size v1 l1) (hP2 : Poly w w.heap.size v2 l2) :
    Calls Tryd.prog 83 #[v1,v2] w fun e w'=>∃ v r,e=.returned (.tuple #[v,.int .i64 0])/\w'.ownsRow w.heap.size 56 2 v r.length (flat r)/\Canon r (fun x=>coefL l1 x+coefL l2 x)/\r.length<=128/\Below w.heap.size w w':=by
 have HP1:Hid (Poly w w.heap.size v1 l1):=hP1
 have HP2:Hid (Poly w w.heap.size v2 l2):=hP2
 have HM1:Hid (mayB l1=true):=hm1
 have HM2:Hid (mayB l2=true):=hm2
 clear hP1 hP2 hm1 hm2
 go_enter Tryd.func83,Tryd.ntmps83
 go_wp2_with (go_at_call 95;refine(Xy0 v1 v2 l1 l2 w HM1.out HM2.out HP1.out HP2.out).mono ?_;rintro r w1 ⟨v,m,rfl,hrow,hcan,hml,hb1⟩)
 go_ret2
 exact⟨v,m,rfl,hrow,hcan,hml,hb1⟩
end Go.Proofs.YtjcagkgpbcdghaaDoor.Poly
/- The walk of knotworkref.Put: a term put into a list in form. -/
namespace Go.Proofs.YtjcagkgpbcdghaaDoor.Poly
open Go.RowKit Go.Maps
def PolyC (w:World) (B:Nat) (v:Value) (l:List (Int×Int)):Prop:=Poly w B v l/\∃ a n c,v=.slice a n c/\n<=c/\c<=maxLen
theorem PolyC.ofRow {w:World} {base:Nat} {v:Value} {l:List (Int×Int)} (h:w.ownsRow base 56 2 v l.length (flat l)):PolyC w w.heap.size v l:=by
 refine⟨Poly.ofRow h,?_⟩
 rcases h.2 with⟨rfl,h0⟩|⟨g,cap,cur,rfl,_,_,h1,h2,_⟩
 · exact⟨none,0,0,rfl,Nat.le_refl _,Nat.zero_le _⟩
 · exact⟨_,_,_,rfl,h1,h2⟩
theorem PolyC.up {w w':World} {v:Value} {l:List (Int×Int)} (h:PolyC w w.heap.size v l) (hb:Below w.heap.size w w'):PolyC w' w'.heap.size v l:=⟨h.1.up hb,h.2⟩
end Go.Proofs.YtjcagkgpbcdghaaDoor.Poly
/- Determinants of tables of polynomials, as functions from exponents to coefficients: along the first row and along the last row they are the same. Plain mathematics: no program is named here. -/
namespace Go.Proofs.YtjcagkgpbcdghaaDoor.Poly
def sgn:Nat->Int
 |0=>1
 |n+1 => -sgn n
theorem XZ4 (a:List (Int×Int)) (f g:Int->Int) (y:Int):QQ5 a (fun x=>f x+g x) y=QQ5 a f y+QQ5 a g y:=by
 induction a with
 |nil=>rfl
 |cons t a ih=>simp only[QQ5,ih,Int.mul_add];omega
theorem XZ3 (a:List (Int×Int)) (k:Int) (g:Int->Int) (y:Int):QQ5 a (fun x=>k*g x) y=k*QQ5 a g y:=by
 induction a with
 |nil=>simp[QQ5]
 |cons t a ih=>simp only[QQ5,ih,Int.mul_add];rw[Int.mul_left_comm]
theorem Xj3 (a:List (Int×Int)) (f g:Int->Int) (y:Int):QQ5 a (fun x=>f x-g x) y=QQ5 a f y-QQ5 a g y:=by
 induction a with
 |nil=>rfl
 |cons t a ih=>simp only[QQ5,ih,Int.mul_sub];omega
theorem Qx2 (a:List (Int×Int)) (y:Int):QQ5 a (fun _=>0) y=0:=by
 induction a with
 |nil=>rfl
 |cons t a ih=>simp only[QQ5,ih,Int.mul_zero];rfl
theorem ZQ0 (b:List (Int×Int)) (g:Int->Int) (e c y:Int):QQ5 b (fun z=>c*g (z-e)) y=c*QQ5 b g (y-e):=by
 induction b with
 |nil=>simp[QQ5]
 |cons s b ih=>
  simp only[QQ5,ih,Int.mul_add]
  have h:y-s.1-e=y-e-s.1:=by omega
  rw[h,Int.mul_left_comm]
theorem XB3 (a b:List (Int×Int)) (g:Int->Int) (y:Int):QQ5 a (QQ5 b g) y=QQ5 b (QQ5 a g) y:=by
 induction a with
 |nil=>exact(Qx2 b y).symm
 |cons t a ih=>
  have h:QQ5 b (QQ5 (t::a) g) y=QQ5 b (fun z=>t.2*g (z-t.1)) y+QQ5 b (QQ5 a g) y:=XZ4 b _ _ y
  rw[h,ZQ0]
  simp only[QQ5,ih]
def rowF (a:Nat->List (Int×Int)):List Nat->(List Nat->Int->Int)->Int->Int
 |[],_=>fun _=>0
 |c::cs,h=>fun y=>QQ5 (a c) (h cs) y-rowF a cs (fun rest=>h (c::rest)) y
def Qx9 (b:Nat->List (Int×Int)):List Nat->(List Nat->Int->Int)->Int->Int
 |[],_=>fun _=>0
 |c::cs,h=>fun y=>sgn cs.length*QQ5 (b c) (h cs) y+Qx9 b cs (fun rest=>h (c::rest)) y
theorem XB2 (a:Nat->List (Int×Int)) (cs:List Nat) (h h':List Nat->Int->Int) (e:∀ rest,rest.length+1=cs.length->h rest=h' rest):rowF a cs h=rowF a cs h':=by
 induction cs generalizing h h' with
 |nil=>rfl
 |cons c cs ih=>
  have h1:=ih (fun rest=>h (c::rest)) (fun rest=>h' (c::rest)) fun rest hr=>e (c::rest) (by simp;omega)
  funext y
  simp only[rowF,h1,e cs (by simp)]
theorem ZF4 (a:Nat->List (Int×Int)) (cs:List Nat) (h h':List Nat->Int->Int) (e:∀ rest,rest.length+1=cs.length->h rest=h' rest):Qx9 a cs h=Qx9 a cs h':=by
 induction cs generalizing h h' with
 |nil=>rfl
 |cons c cs ih=>
  have h1:=ih (fun rest=>h (c::rest)) (fun rest=>h' (c::rest)) fun rest hr=>e (c::rest) (by simp;omega)
  funext y
  simp only[Qx9,h1,e cs (by simp)]
theorem KD7 (a:Nat->List (Int×Int)) (cs:List Nat) (h h':List Nat->Int->Int) (y:Int):rowF a cs (fun rest z=>h rest z+h' rest z) y=rowF a cs h y+rowF a cs h' y:=by
 induction cs generalizing h h' with
 |nil=>rfl
 |cons c cs ih=>
  simp only[rowF,XZ4,ih (fun rest=>h (c::rest)) (fun rest=>h' (c::rest))]
  omega
theorem KD9 (a:Nat->List (Int×Int)) (cs:List Nat) (h h':List Nat->Int->Int) (y:Int):Qx9 a cs (fun rest z=>h rest z-h' rest z) y=Qx9 a cs h y-Qx9 a cs h' y:=by
 induction cs generalizing h h' with
 |nil=>rfl
 |cons c cs ih=>
  simp only[Qx9,Xj3,ih (fun rest=>h (c::rest)) (fun rest=>h' (c::rest)),Int.mul_sub]
  omega
theorem KD8 (a:Nat->List (Int×Int)) (p:List (Int×Int)) (cs:List Nat) (h:List Nat->Int->Int) (y:Int):rowF a cs (fun rest=>QQ5 p (h rest)) y=QQ5 p (rowF a cs h) y:=by
 induction cs generalizing h y with
 |nil=>exact(Qx2 p y).symm
 |cons c cs ih=>
  have e:QQ5 p (rowF a (c::cs) h) y=QQ5 p (QQ5 (a c) (h cs)) y-QQ5 p (rowF a cs fun rest=>h (c::rest)) y:=Xj3 p _ _ y
  rw[e,<-ih,XB3]
  rfl
theorem KF0 (b:Nat->List (Int×Int)) (p:List (Int×Int)) (cs:List Nat) (h:List Nat->Int->Int) (y:Int):Qx9 b cs (fun rest=>QQ5 p (h rest)) y=QQ5 p (Qx9 b cs h) y:=by
 induction cs generalizing h y with
 |nil=>exact(Qx2 p y).symm
 |cons c cs ih=>
  have e:QQ5 p (Qx9 b (c::cs) h) y=QQ5 p (fun z=>sgn cs.length*QQ5 (b c) (h cs) z) y+QQ5 p (Qx9 b cs fun rest=>h (c::rest)) y:=XZ4 p _ _ y
  rw[e,<-ih,XZ3,XB3]
  rfl
theorem KD4 (a:Nat->List (Int×Int)) (cs:List Nat) (h:List Nat->Int->Int) (y:Int):rowF a cs (fun rest z => -h rest z) y = -rowF a cs h y:=by
 induction cs generalizing h y with
 |nil=>rfl
 |cons c cs ih=>
  have e:QQ5 (a c) (fun z => -h cs z) y = -QQ5 (a c) (h cs) y:=by
   have:=XZ3 (a c) (-1) (h cs) y
   simp only[Int.neg_mul,Int.one_mul]at this
   exact this
  simp only[rowF,ih (fun rest=>h (c::rest)),e]
  omega
theorem KD3 (a:Nat->List (Int×Int)) (cs:List Nat) (g:List Nat->Int->Int) (y:Int):rowF a cs (fun rest z=>sgn rest.length*g rest z) y = -(sgn cs.length*rowF a cs g y):=by
 induction cs generalizing g y with
 |nil=>simp[rowF]
 |cons c cs ih=>
  have e1:rowF a cs (fun rest z=>sgn (c::rest).length*g (c::rest) z) y=rowF a cs (fun rest z => -(sgn rest.length*g (c::rest) z)) y:=by
   congr 1
   congr 1
   funext rest z
   simp only[List.length_cons,sgn,Int.neg_mul]
  have e2:=KD4 a cs (fun rest z=>sgn rest.length*g (c::rest) z) y
  have e3:=ih (fun rest=>g (c::rest)) y
  have e0:rowF a (c::cs) (fun rest z=>sgn rest.length*g rest z) y=QQ5 (a c) (fun z=>sgn cs.length*g cs z) y-rowF a cs (fun rest z=>sgn (c::rest).length*g (c::rest) z) y:=rfl
  rw[e0,e1,e2,e3,XZ3]
  simp only[rowF,List.length_cons,sgn,Int.neg_mul,Int.mul_sub]
  omega
theorem KD1 (a b:Nat->List (Int×Int)) (cs:List Nat) (h:List Nat->Int->Int) (y:Int):rowF a cs (fun rest=>Qx9 b rest h) y=Qx9 b cs (fun rest=>rowF a rest h) y:=by
 induction cs generalizing h y with
 |nil=>rfl
 |cons c cs ih=>
  have l1:rowF a (c::cs) (fun rest=>Qx9 b rest h) y=QQ5 (a c) (Qx9 b cs h) y-rowF a cs (fun rest=>Qx9 b (c::rest) h) y:=rfl
  have l2:rowF a cs (fun rest=>Qx9 b (c::rest) h) y=rowF a cs (fun rest z=>sgn rest.length*QQ5 (b c) (h rest) z) y+rowF a cs (fun rest=>Qx9 b rest (fun r=>h (c::r))) y:=KD7 a cs _ _ y
  have l3:=KD3 a cs (fun rest=>QQ5 (b c) (h rest)) y
  have l4:=KD8 a (b c) cs h y
  have r1:Qx9 b (c::cs) (fun rest=>rowF a rest h) y=sgn cs.length*QQ5 (b c) (rowF a cs h) y+Qx9 b cs (fun rest=>rowF a (c::rest) h) y:=rfl
  have r2:Qx9 b cs (fun rest=>rowF a (c::rest) h) y=Qx9 b cs (fun rest=>QQ5 (a c) (h rest)) y-Qx9 b cs (fun rest=>rowF a rest (fun r=>h (c::r))) y:=KD9 b cs _ _ y
  have r3:=KF0 b (a c) cs h y
  have i:=ih (fun r=>h (c::r)) y
  rw[l1,l2,l3,l4,r1,r2,r3,i]
  omega
def KU3 (y:Int):Int:=if y=0 then 1 else 0
def Xx2:List (Nat->List (Int×Int))->List Nat->Int->Int
 |[],_=>KU3
 |r::rs,cs=>rowF r cs (Xx2 rs)
def Xy6:List (Nat->List (Int×Int))->List Nat->Int->Int
 |[],_=>KU3
 |r::rs,cs=>Qx9 r cs (Xy6 rs)
theorem row_one (r:Nat->List (Int×Int)) (cs:List Nat) (h:cs.length=1) (g:List Nat->Int->Int):rowF r cs g=Qx9 r cs g:=by
 match cs,h with
 |[c],_=>
  funext y
  simp[rowF,Qx9,sgn]
theorem KC4:∀ (n:Nat) (rows:List (Nat->List (Int×Int))) (cs:List Nat),rows.length=n->cs.length=n->Xx2 rows cs=Xy6 rows.reverse cs:=by
 intro n
 induction n using Nat.strongRecOn with
 |ind n ih=>
  intro rows cs hr hc
  match rows,hr with
  |[],_=>rfl
  |[r],hr=>
   simp only[List.length_cons,List.length_nil]at hr
   exact row_one r cs (by omega) _
  |r::r'::rs,hr=>
   simp only[List.length_cons]at hr
   obtain⟨mid,s,hms⟩:∃ mid s,r'::rs=mid++[s]:=⟨(r'::rs).dropLast,(r'::rs).getLast (by simp),(List.dropLast_concat_getLast (by simp)).symm⟩
   have hml:mid.length+1=rs.length+1:=by
    have:=congrArg List.length hms
    simp at this
    omega
   have h1:Xx2 (r::r'::rs) cs=rowF r cs (fun rest=>Qx9 s rest (Xy6 mid.reverse)):=by
    refine XB2 r cs _ _ fun rest hrest=>?_
    rw[ih (rs.length+1) (by omega) (r'::rs) rest (by simp) (by omega),hms]
    simp[Xy6]
   have h2:Xy6 (r::r'::rs).reverse cs=Qx9 s cs (fun rest=>rowF r rest (Xy6 mid.reverse)):=by
    have e:(r::r'::rs).reverse=s::(r::mid).reverse:=by rw[hms];simp
    rw[e]
    refine ZF4 s cs _ _ fun rest hrest=>?_
    rw[<-ih (mid.length+1) (by omega) (r::mid) rest (by simp) (by omega)]
    refine XB2 r rest _ _ fun rest' hrest'=>?_
    exact ih mid.length (by omega) mid rest' rfl (by omega)
   rw[h1,h2]
   funext y
   exact KD1 r s cs _ y
end Go.Proofs.YtjcagkgpbcdghaaDoor.Poly
/- The walks of poly.size, knotworkref.abs and poly.small: the sum of the coefficients' sizes. -/
namespace Go.Proofs.YtjcagkgpbcdghaaDoor.Poly
open Go.RowKit Go.Maps
def Xy8 (c:Int):Int:=if c<0 then -c else c
def QZ8 (l:List (Int×Int)):Nat->Int
 |0=>0
 |k+1=>QZ8 l k+Xy8 (l.getD k (0,0)).2
def QF6 (l:List (Int×Int)):Int:=QZ8 l l.length
theorem Zh0 {l:List (Int×Int)} (hm:mayB l=true) (k:Nat) (hk:k<=l.length):0<=QZ8 l k/\QZ8 l k<=1000000*(k:Int):=by
 induction k with
 |zero=>simp[QZ8]
 |succ k ih=>
  have h:=(okB_iff l k).1 (((may_iff l).1 hm).2 k (by omega))
  have:=ih (by omega)
  rw[QZ8]
  unfold Xy8
  split<;>omega
end Go.Proofs.YtjcagkgpbcdghaaDoor.Poly
