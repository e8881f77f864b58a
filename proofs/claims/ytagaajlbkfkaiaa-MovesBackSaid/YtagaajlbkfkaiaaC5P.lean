/- Several texts of the proof, one behind the other. -/
import Derived.Test.YtagaajlbkfkaiaaC3m
import Derived.Test.YtagaajlbkfkaiaaM1
import Derived.Test.YtagaajlbkfkaiaaF2P
import Derived.Deep.RegionHeldLaw
import Derived.Test.YtagaajlbkfkaiaaOmP
/- Where canon.toldFrom stands: a telling in a box, its two lists, and a map of numbers. -/
namespace Go.Proofs.Ytagaajlbkfkaiaa
open Go.RowKit Go.Maps
theorem boxNe {w:World} {B e s n g:Nat} {v:Value} {xs:List Value} {cs:Array Value} {t:TypeId} {fz:Nat×Nat} (h:w.ownsRow B e s v n xs) (hb:w.heap[g]?=some (.cells cs t fz)) (he:e≠t):v.ownBlock≠some g:=by
 rcases h.2 with⟨rfl,_⟩|⟨g',cap,cur,rfl,_,hg,_⟩
 · intro h0;cases h0
 · intro h0
   have e1:g'=g:=Option.some.inj h0
   subst e1
   rw[hg]at hb
   injection hb with h1
   injection h1 with h2 h3
   exact he h3
theorem mapNe {w:World} {B e s n g m:Nat} {v:Value} {xs:List Value} {D:DataW Unit} (h:w.ownsRow B e s v n xs) (hb:OwnM w g m D):v.ownBlock≠some g:=by
 obtain⟨es,clock,hh,-⟩:=hb
 rcases h.2 with⟨rfl,_⟩|⟨g',cap,cur,rfl,_,hg,_⟩
 · intro h0;cases h0
 · intro h0
   have e1:g'=g:=Option.some.inj h0
   subst e1
   rw[hg]at hh
   cases hh
theorem boxMapNe {w:World} {g g' m:Nat} {cs:Array Value} {t:TypeId} {fz:Nat×Nat} {D:DataW Unit} (hb:w.heap[g]?=some (.cells cs t fz)) (h:OwnM w g' m D):g≠g':=by
 obtain⟨es,clock,hh,-⟩:=h
 intro e
 subst e
 rw[hb]at hh
 cases hh
def NumsD (D:DataW Unit) (p:List Nat):Prop:=∀ x:Nat,Maps.has D (.int .i64 (x:Nat))=decide (x∈p)/\(x∈p->coefOf D (x:Nat)=(p.idxOf x:Int))
theorem NumsD.put {D:DataW Unit} {p:List Nat} (h:NumsD D p) (hD:IsMap D) {x:Nat} (hx:x ∉ p):NumsD (D.put (.int .i64 (x:Nat)) (.lit (.int .i64 (p.length:Nat)))) (p++[x]):=by
 intro y
 by_cases e:y=x
 · subst e
   refine⟨?_,fun _=>?_⟩
   · rw[has_put_same hD (show WideAt.IsKeyLit (.int .i64 (y:Nat)) from trivial)]
     simp
   · rw[coefOf_put hD,if_pos rfl,List.idxOf_append,if_neg hx]
     simp
 · have hne:(Lit.int .i64 (y:Nat))≠.int .i64 (x:Nat):=by intro h0;injection h0 with _ h1;omega
   refine⟨?_,fun hy=>?_⟩
   · rw[has_put_other hne,(h y).1]
     simp[e]
   · have hy2:y∈p:=by simpa[e] using hy
     rw[coefOf_put hD,if_neg (by omega),(h y).2 hy2,List.idxOf_append,if_pos hy2]
def MapN (W:World) (gM:Nat) (q:List Nat):Prop:=∃ m D,OwnM W gM m D/\m<=q.length/\NumsD D q
theorem MapN.kept {W W':World} {gM:Nat} {q:List Nat} {row:Option Nat} (h:MapN W gM q) (hg:W.grownBy W' row) (hne:row≠some gM):MapN W' gM q:=by
 obtain⟨m,D,⟨es,clock,hh,rest⟩,hm,hN⟩:=h
 have hlt:gM<W.heap.size:=(Array.getElem?_eq_some_iff.1 hh).1
 exact⟨m,D,⟨es,clock,(hg.block gM hlt (fun e=>hne e.symm)).trans hh,rest⟩,hm,hN⟩
structure ToAt (B gT gM:Nat) (q:List Nat) (p:List Nat×List Int) (vo vc:Value) (W:World):Prop where
 box:W.heap[gT]?=some (.cells #[vo,vc] 148 (0,0))
 map:MapN W gM q
 ord:W.ownsRow B 3 1 vo p.1.length (nats p.1)
 cod:W.ownsRow B 3 1 vc p.2.length (intsV p.2)
 oc:vo.ownBlock=none∨vo.ownBlock≠vc.ownBlock
theorem ToAt.mapNe {B gT gM:Nat} {q:List Nat} {p:List Nat×List Int} {vo vc:Value} {W:World} (h:ToAt B gT gM q p vo vc W):vo.ownBlock≠some gM/\vc.ownBlock≠some gM/\gT≠gM:=by
 obtain⟨m,D,hM,-,-⟩:=h.map
 exact⟨Go.Proofs.Ytagaajlbkfkaiaa.mapNe h.ord hM,Go.Proofs.Ytagaajlbkfkaiaa.mapNe h.cod hM,boxMapNe h.box hM⟩
theorem ToAt.any {B gT gM:Nat} {q:List Nat} {p:List Nat×List Int} {vo vc:Value} {W W':World} (h:ToAt B gT gM q p vo vc W) (hg:W.grownBy W' none):ToAt B gT gM q p vo vc W':=
 ⟨(hg.block gT (Array.getElem?_eq_some_iff.1 h.box).1 (by simp)).trans h.box,h.map.kept hg (by simp),QX0 h.ord hg,QX0 h.cod hg,h.oc⟩
theorem ToAt.drew {B gT gM:Nat} {q:List Nat} {p:List Nat×List Int} {vo vc:Value} {W:World} (h:ToAt B gT gM q p vo vc W):ToAt B gT gM q p vo vc W.drew:=h.any (QQ5 ((Below.refl _ _).drew) none)
theorem ToAt.code {B gT gM g k cap H:Nat} {q:List Nat} {p:List Nat×List Int} {xs:List Int} {vo vc:Value} {W W8:World} (h:ToAt B gT gM q p vo vc W) (hk:k=(p.2++xs).length) (hown:W8.ownsRow B 3 1 (.slice (some ⟨g,0,none⟩) k cap) k (intsV (p.2++xs))) (hg:W.grownBy W8 vc.ownBlock) (hl:vc.ownBlock=some g∨g=H) (hH:W.heap.size=H):
    W8.heap[gT]?=some (.cells #[vo,vc] 148 (0,0))/\ToAt B gT gM q (p.1,p.2++xs) vo (.slice (some ⟨g,0,none⟩) k cap) (W8.setCell ⟨gT,1,none⟩ (.slice (some ⟨g,0,none⟩) k cap)):=by
 obtain⟨n1,n2,n3⟩:=h.mapNe
 have hbx:W8.heap[gT]?=some (.cells #[vo,vc] 148 (0,0)):=(hg.block gT (Array.getElem?_eq_some_iff.1 h.box).1 (fun e=>boxNe h.cod h.box (by decide) e.symm)).trans h.box
 have hs:=QQ7 W8 gT 1 (.slice (some ⟨g,0,none⟩) k cap)
 subst hk
 have hord8:W8.ownsRow B 3 1 vo p.1.length (nats p.1):=h.ord.kept hg h.oc
 refine⟨hbx,?_,(h.map.kept hg n2).kept hs (fun e=>n3 (Option.some.inj e)),hord8.kept hs (Or.inr (boxNe hord8 hbx (by decide))),hown.kept hs (Or.inr (boxNe hown hbx (by decide))),?_⟩
 · rw[QQ6 hbx];rfl
 · rcases hl with hl|hl
   · rcases h.oc with h1|h1
     · exact Or.inl h1
     · refine Or.inr (fun e=>h1 ?_)
       rw[hl]
       exact e
   · cases hv:vo.ownBlock with
     |none=>exact Or.inl rfl
     |some q=>
      refine Or.inr (fun e=>?_)
      have h1:=(h.ord.lt q hv).2
      have h2:q=g:=Option.some.inj e
      omega
theorem ToAt.order {B gT gM g k cap H x:Nat} {q:List Nat} {p:List Nat×List Int} {vo vc:Value} {W W8:World} (h:ToAt B gT gM q p vo vc W) (hk:k=(p.1++[x]).length) (hown:W8.ownsRow B 3 1 (.slice (some ⟨g,0,none⟩) k cap) k (nats (p.1++[x]))) (hg:W.grownBy W8 vo.ownBlock) (hl:vo.ownBlock=some g∨g=H) (hH:W.heap.size=H):
    W8.heap[gT]?=some (.cells #[vo,vc] 148 (0,0))/\ToAt B gT gM q (p.1++[x],p.2) (.slice (some ⟨g,0,none⟩) k cap) vc (W8.setCell ⟨gT,0,none⟩ (.slice (some ⟨g,0,none⟩) k cap)):=by
 obtain⟨n1,n2,n3⟩:=h.mapNe
 have hbx:W8.heap[gT]?=some (.cells #[vo,vc] 148 (0,0)):=(hg.block gT (Array.getElem?_eq_some_iff.1 h.box).1 (fun e=>boxNe h.ord h.box (by decide) e.symm)).trans h.box
 have hs:=QQ7 W8 gT 0 (.slice (some ⟨g,0,none⟩) k cap)
 subst hk
 have hc:vc.ownBlock=none∨vc.ownBlock≠vo.ownBlock:=by
  cases hv:vc.ownBlock with
  |none=>exact Or.inl rfl
  |some q=>
   refine Or.inr (fun e=>?_)
   have oc:=h.oc
   rw[hv]at oc
   rcases oc with h1|h1
   · rw[h1]at e;cases e
   · exact h1 e.symm
 have hcod8:W8.ownsRow B 3 1 vc p.2.length (intsV p.2):=h.cod.kept hg hc
 refine⟨hbx,?_,(h.map.kept hg n1).kept hs (fun e=>n3 (Option.some.inj e)),hown.kept hs (Or.inr (boxNe hown hbx (by decide))),hcod8.kept hs (Or.inr (boxNe hcod8 hbx (by decide))),?_⟩
 · rw[QQ6 hbx];rfl
 · refine Or.inr (fun e=>?_)
   have e':some g=vc.ownBlock:=e
   rcases hl with hl|hl
   · rcases hc with h1|h1
     · rw[h1]at e';cases e'
     · exact h1 (by rw[hl,<-e'])
   · have h1:=(h.cod.lt g e'.symm).2
     omega
theorem ToAt.num {B gT gM x m:Nat} {q:List Nat} {p:List Nat×List Int} {vo vc:Value} {W W1:World} {D:DataW Unit} (h:ToAt B gT gM q p vo vc W) (hM:OwnM W gM m D) (hm:m<=q.length) (hN:NumsD D q) (hx:x ∉ q) (h1:OwnM W1 gM (m+1) (D.put (.int .i64 (x:Nat)) (.lit (.int .i64 (q.length:Nat))))) (hg:W.grownBy W1 (some gM)):ToAt B gT gM (q++[x]) p vo vc W1:=by
 obtain⟨n1,n2,n3⟩:=h.mapNe
 refine⟨(hg.block gT (Array.getElem?_eq_some_iff.1 h.box).1 (fun e=>n3 (Option.some.inj e))).trans h.box,⟨m+1,_,h1,by simp;omega,hN.put (World.ownsMap.isMap hM) hx⟩,h.ord.kept hg (Or.inr n1),h.cod.kept hg (Or.inr n2),h.oc⟩
theorem signC_any (x:Cr) (w:World):
    Calls Try.prog 127 #[.agg #[.int .i64 x.a,.int .i64 x.b,.int .i64 x.c,.int .i64 x.d,.bool x.plus]] w fun e w'=>e=.returned (.int .i64 (if x.plus=true then 1 else 0))/\Below w.heap.size w w':=by
 obtain⟨xa,xb,xc,xd,xp⟩:=x
 cases xp
 · go_enter Try.func127,Try.ntmps127
   go_wp2
   go_ret
   exact⟨rfl,(Below.refl _ _).alloc (Nat.le_refl _) _⟩
 · go_enter Try.func127,Try.ntmps127
   go_wp2
   go_ret
   exact⟨rfl,(Below.refl _ _).alloc (Nat.le_refl _) _⟩
end Go.Proofs.Ytagaajlbkfkaiaa
/- The walks of the closure that numbers arcs as they come, and of drawing.Renumbered with it. -/
namespace Go.Proofs.Ytagaajlbkfkaiaa
open Go.RowKit Go.Maps
set_option maxHeartbeats 4000000
set_option maxRecDepth 100000
def addF (F:List Nat) (x:Nat):List Nat:=if x∈F then F else F++[x]
def arcN (x:Cr) (k:Nat):Nat:=(x.arc k).toNat
def addN (F:List Nat) (x:Cr):Nat->List Nat
 |0=>F
 |k+1=>addF (addN F x k) (arcN x k)
def canN (F:List Nat) (x:Cr) (k:Nat):Int:=((addN F x (k+1)).idxOf (arcN x k):Int)+1
def canX (F:List Nat) (x:Cr):Cr:=⟨canN F x 0,canN F x 1,canN F x 2,canN F x 3,x.plus⟩
theorem addF_len (F:List Nat) (x:Nat):(addF F x).length<=F.length+1:=by
 unfold addF;split<;>simp
theorem addN_len (F:List Nat) (x:Cr) (k:Nat):(addN F x k).length<=F.length+k:=by
 induction k with
 |zero=>exact Nat.le_refl _
 |succ k ih=>have:=addF_len (addN F x k) (arcN x k);rw[addN];omega
def NumA (D:DataW Unit) (F:List Nat):Prop:=Maps.size D=F.length/\∀ x:Nat,Maps.has D (.int .i64 (x:Nat))=decide (x∈F)/\(x∈F->coefOf D (x:Nat)=(F.idxOf x:Int)+1)
theorem NumA.put {D:DataW Unit} {F:List Nat} (h:NumA D F) (hT:Tidy D) (hD:IsMap D) {x:Nat} (hx:x ∉ F):NumA (D.put (.int .i64 (x:Nat)) (.lit (.int .i64 ((F.length:Int)+1)))) (F++[x]):=by
 refine⟨?_,fun y=>?_⟩
 · rw[size_put hT,(h.2 x).1,if_neg (by simpa using hx),h.1]
   simp
 · by_cases e:y=x
   · subst e
     refine⟨?_,fun _=>?_⟩
     · rw[has_put_same hD (show WideAt.IsKeyLit (.int .i64 (y:Nat)) from trivial)]
       simp
     · rw[coefOf_put hD,if_pos rfl,List.idxOf_append,if_neg hx]
       simp
   · have hne:(Lit.int .i64 (y:Nat))≠.int .i64 (x:Nat):=by intro h0;injection h0 with _ h1;omega
     refine⟨?_,fun hy=>?_⟩
     · rw[has_put_other hne,(h.2 y).1]
       simp[e]
     · have hy2:y∈F:=by simpa[e] using hy
       rw[coefOf_put hD,if_neg (by omega),(h.2 y).2 hy2,List.idxOf_append,if_pos hy2]
def MapA (W:World) (gM:Nat) (F:List Nat):Prop:=∃ m D,OwnM W gM m D/\m<=F.length/\NumA D F
theorem MapA.kept {W W':World} {gM:Nat} {F:List Nat} {row:Option Nat} (h:MapA W gM F) (hg:W.grownBy W' row) (hne:row≠some gM):MapA W' gM F:=by
 obtain⟨m,D,⟨es,clock,hh,rest⟩,hm,hN⟩:=h
 have hlt:gM<W.heap.size:=(Array.getElem?_eq_some_iff.1 hh).1
 exact⟨m,D,⟨es,clock,(hg.block gM hlt (fun e=>hne e.symm)).trans hh,rest⟩,hm,hN⟩
theorem MapA.lt {W:World} {gM:Nat} {F:List Nat} (h:MapA W gM F):gM<W.heap.size:=by
 obtain⟨m,D,⟨es,clock,hh,rest⟩,-,-⟩:=h
 exact(Array.getElem?_eq_some_iff.1 hh).1
theorem MapA.ne {W:World} {gM g:Nat} {F:List Nat} {cs:Array Value} {t:TypeId} {fz:Nat×Nat} (h:MapA W gM F) (hb:W.heap[g]?=some (.cells cs t fz)):g≠gM:=by
 obtain⟨m,D,hM,-,-⟩:=h
 exact boxMapNe hb hM
theorem canNum_any (s x gV gM:Nat) (F:List Nat) (w:World) (hx:x<=1000) (hF:F.length<=10000) (hV:w.heap[gV]?=some (.cells #[.map (some gM)] 143 (0,0))) (hA:MapA w gM F):
    Calls Try.prog 98 #[.int .i64 (s:Nat),.int .i64 (x:Nat),.pointer (some ⟨gV,0,none⟩)] w fun e w'=>e=.returned (.int .i64 (((addF F x).idxOf x:Int)+1))/\MapA w' gM (addF F x)/\w.grownBy w' (some gM):=by
 have hne:=hA.ne hV
 have HA:=hidB hA
 obtain⟨m,D,hM,hm,hN⟩:=hA
 have HM:=hidB hM
 have HN:=hidB hN
 have c0:=QQ0 (i:=0) hV rfl
 have l0:gV<w.heap.size:=(Array.getElem?_eq_some_iff.1 hV).1
 have hlk:=hM.look (x:Nat) (by omega) (by omega)
 unfold addF
 by_cases hxF:x∈F
 · rw[if_pos hxF]
   rw[(hN.2 x).2 hxF]at hlk
   obtain⟨r,hr⟩:∃ r,F.idxOf x=r:=⟨_,rfl⟩
   rw[hr]at hlk ⊢
   have hz:((r:Int)+1==0)=false:=beq_eq_false_iff_ne.2 (by omega)
   clear hN hM
   go_enter Try.func98,Try.ntmps98
   go_wp2
   go_ret
   exact⟨rfl,HA.out,⟨rfl,rfl,rfl,Nat.le_refl _,fun _ _ _=>rfl⟩⟩
 · rw[if_neg hxF]
   have hid:(F++[x]).idxOf x=F.length:=by rw[List.idxOf_append,if_neg hxF];simp
   have hc0:coefOf D (x:Nat)=0:=coefOf_none (by rw[(hN.2 x).1];exact decide_eq_false hxF)
   rw[hc0]at hlk
   rw[hid]
   have HSZ:=hidB hN.1
   have hv63 : -9223372036854775808<=((F.length:Int)+1)/\((F.length:Int)+1)<=9223372036854775807:=by omega
   have hx63 : -9223372036854775808<=(x:Int)/\(x:Int)<=9223372036854775807:=by omega
   clear hN hM hid hc0
   go_enter Try.func98,Try.ntmps98
   go_upto_region 4 with(first
    |(at_len;refine wpList_len_own _ rfl _ 143 rfl 3 3 Try.underlying143 _ gM m D rfl HM.out ?_;rw[HSZ.out])
    |(at_mapUpdate;refine wpList_mapUpdate_own _ rfl _ _ _ 143 rfl 3 3 law3 Try.underlying143 _ gM m _ rfl HM.out (by unfold maxLen;omega) _ _ _ rfl rfl (keyOf_int_mk Try.underlying3 (WalkArith.wf_i64 hx63)) _ [] (plainElem_int Try.underlying3 (WalkArith.wf_i64 hv63)) ?_;intro w6 hown6 hg6;go_frame))
   have HM6:Hid (MapA w6 gM (F++[x])):=⟨m+1,_,hown6,by simp;omega,HN.out.put (World.ownsMap.tidy HM.out law3) (World.ownsMap.isMap HM.out) hxF⟩
   have HG6:=hidB hg6
   obtain⟨m6,D6,hM6,-,hN6⟩:=HM6.out
   have hl6:=hM6.look (x:Nat) (by omega) (by omega)
   rw[(hN6.2 x).2 (by simp),show(F++[x]).idxOf x=F.length by rw[List.idxOf_append,if_neg hxF];simp]at hl6
   have c6:=QQ0 (i:=0) ((hg6.block _ l0 (fun e=>hne (Option.some.inj e))).trans hV) rfl
   have l6:gV<w6.heap.size:=Nat.lt_of_lt_of_le l0 hg6.size
   clear hown6 hg6 hM6 hN6 hlk c0
   go_wp2
   go_ret
   exact⟨rfl,HM6.out,HG6.out⟩
theorem renumbered_can (x:Cr) (gV gM:Nat) (F:List Nat) (w:World) (h1:∀ k,k<4->0<=x.arc k/\x.arc k<=1000) (hF:F.length<=9000) (hV:w.heap[gV]?=some (.cells #[.map (some gM)] 143 (0,0))) (hA:MapA w gM F):
    Calls Try.prog 100 #[.agg #[.int .i64 x.a,.int .i64 x.b,.int .i64 x.c,.int .i64 x.d,.bool x.plus],.func (.func 98) #[] #[.pointer (some ⟨gV,0,none⟩)]] w fun e w'=>e=.returned (.agg #[.int .i64 (canX F x).a,.int .i64 (canX F x).b,.int .i64 (canX F x).c,.int .i64 (canX F x).d,.bool x.plus])/\MapA w' gM (addN F x 4)/\w.grownBy w' (some gM):=by
 have HV:=hidB hV
 have HMA:=hidB hA
 have H1:Hid (∀ k,k<4->x.arc k=(arcN x k:Int)/\arcN x k<=1000):=fun k hk=>by have:=h1 k hk;unfold arcN;omega
 have hlM:=hA.lt
 have hVM:=hA.ne hV
 have hlV:gV<w.heap.size:=(Array.getElem?_eq_some_iff.1 hV).1
 clear h1 hV hA
 obtain⟨w0,hw0⟩:∃ w0,w0=((w.alloc (.cells #[.int .i64 x.a,.int .i64 x.b,.int .i64 x.c,.int .i64 x.d,.bool x.plus] 71)).alloc (.cells #[.int .i64 0,.int .i64 0,.int .i64 0,.int .i64 0,.bool false] 71)).alloc (.cells #[.int .i64 0,.int .i64 0,.int .i64 0,.int .i64 0] 116):=⟨_,rfl⟩
 have HW0:=hidB hw0
 have hs0:w0.heap.size=w.heap.size+3:=by rw[hw0];simp
 have HB0:=hidB (show Below w.heap.size w w0 by rw[hw0];exact QV1 _ _ _ _)
 have HT0:=hidB (show w0.heap[w.heap.size]?=some (.cells #[.int .i64 x.a,.int .i64 x.b,.int .i64 x.c,.int .i64 x.d,.bool x.plus] 71 (0,0)) by rw[hw0];exact alloc_old (alloc_old (alloc_at rfl)))
 have HT1:=hidB (show w0.heap[w.heap.size+1]?=some (.cells #[.int .i64 0,.int .i64 0,.int .i64 0,.int .i64 0,.bool false] 71 (0,0)) by rw[hw0];exact alloc_old (alloc_at (by simp)))
 obtain⟨g,hg⟩:∃ g:Nat->Int,g=canN F x:=⟨_,rfl⟩
 have HG:=hidB hg
 clear hg
 have HT2:=hidB (show w0.heap[w.heap.size+1+1]?=some (.cells (QW7 (numTo g 0)) 116 (0,0)) by rw[hw0,numTo_zero];exact alloc_at (by simp))
 have HTI:=hidB (show canX F x=⟨g 0,g 1,g 2,g 3,x.plus⟩ by rw[HG.out];rfl)
 clear hw0
 generalize canX F x=t at HTI
 obtain rfl:t=⟨g 0,g 1,g 2,g 3,x.plus⟩:=HTI.out
 clear HTI
 go_enter Try.func100,Try.ntmps100
 go_wp2_with (go_at_call 75;rw[<-HW0.out];refine(arcs_any x _).mono ?_;rintro e9 w1 ⟨rfl,hb1⟩;refine Hid.out ?_)
 refine Lib.hid ?_
 have HB1:=hidB (HB0.out.trans (hb1.mono (by omega)))
 have hs1:=hb1.size
 have HA1:=hidB ((hb1.block _ (by omega)).trans HT2.out)
 have HC1:=hidB ((hb1.block _ (by omega)).trans HT0.out)
 have HR1:=hidB ((hb1.block _ (by omega)).trans HT1.out)
 have HG1:=hidB (QQ5 HB1.out (some gM))
 have HM1:=hidB (HMA.out.kept (QQ5 HB1.out none) (by simp))
 clear hb1
 go_wp2
 go_loopw [10] (fun v10 wr=>∃ k:Nat,k<=4/\v10=.int .i64 (k:Nat)/\Hid (wr.heap[w.heap.size+1+1]?=some (.cells (QW7 (numTo g k)) 116 (0,0))/\wr.heap[w.heap.size]?=some (.cells #[.int .i64 x.a,.int .i64 x.b,.int .i64 x.c,.int .i64 x.d,.bool x.plus] 71 (0,0))/\wr.heap[w.heap.size+1]?=some (.cells #[.int .i64 0,.int .i64 0,.int .i64 0,.int .i64 0,.bool false] 71 (0,0)))/\Hid (MapA wr gM (addN F x k)/\w.grownBy wr (some gM))) (fun v10 _=>4-(intOf v10).toNat)
 case atStart=>exact⟨0,Nat.zero_le _,rfl,⟨HA1.out,HC1.out,HR1.out⟩,HM1.out,HG1.out⟩
 case round=>
  rename World=>W1
  obtain⟨k,hk,rfl,hA,hmg⟩:=hrel
  clear HA1 HC1 HR1 HM1 HG1 HB1
  have hlA:w.heap.size+1+1<W1.heap.size:=(Array.getElem?_eq_some_iff.1 hA.out.1).1
  by_cases hkl:k<4
  · have hix:=index_arr x k hkl
    obtain⟨ea,la⟩:=H1.out k hkl
    obtain⟨z,hz⟩:∃ z,arcN x k=z:=⟨_,rfl⟩
    rw[hz]at ea la
    rw[ea]at hix
    have hFl:=addN_len F x k
    have HGK:=hidB (show((addF (addN F x k) z).idxOf z:Int)+1=g k by rw[HG.out,<-hz];rfl)
    have HAN:=hidB (show addN F x (k+1)=addF (addN F x k) z by rw[<-hz];rfl)
    have HN:=hidB ((numTo_next g k hkl).symm)
    have HV1:=hidB ((hmg.out.2.block _ hlV (fun e=>hVM (Option.some.inj e))).trans HV.out)
    clear ea hz
    go_wp2_with (go_at_call 98;refine(canNum_any k z gV gM (addN F x k) _ la (by omega) HV1.out hmg.out.1).mono ?_;rw[HGK.out];rintro e9 w2 ⟨rfl,hm2,hg2⟩;refine Hid.out ?_)
    refine Lib.hid ?_
    have hs2:=hg2.size
    have hA2:w2.heap[w.heap.size+1+1]?=some (.cells (QW7 (numTo g k)) 116 (0,0)):=(hg2.block _ hlA (fun e=>by have:=Option.some.inj e;omega)).trans hA.out.1
    have HA2:=hidB hA2
    have HC2:Hid (w2.heap[w.heap.size]?=some (.cells #[.int .i64 x.a,.int .i64 x.b,.int .i64 x.c,.int .i64 x.d,.bool x.plus] 71 (0,0))/\w2.heap[w.heap.size+1]?=some (.cells #[.int .i64 0,.int .i64 0,.int .i64 0,.int .i64 0,.bool false] 71 (0,0))):=⟨(hg2.block _ (by omega) (fun e=>by have:=Option.some.inj e;omega)).trans hA.out.2.1,(hg2.block _ (by omega) (fun e=>by have:=Option.some.inj e;omega)).trans hA.out.2.2⟩
    have HM2:Hid (MapA w2 gM (addN F x (k+1))/\w.grownBy w2 (some gM)):=⟨(by rw[HAN.out];exact hm2),QQ8 hmg.out.2 hg2⟩
    have e0:w2.cell? ⟨w.heap.size+1+1,k,none⟩=some (.int .i64 ((numTo g k).getD k 0)):=QQ0 hA2 (intArr_get _ k (by rw[numTo_len];exact hkl))
    have z0:=QQ2 (i:=k) hA2
    have hlt:w.heap.size+1+1<w2.heap.size:=by omega
    generalize (numTo g k).getD k 0=u at e0
    have hS:=QQ7 w2 (w.heap.size+1+1) k (.int .i64 (g k))
    have HNA:Hid ((w2.setCell ⟨w.heap.size+1+1,k,none⟩ (.int .i64 (g k))).heap[w.heap.size+1+1]?=some (.cells (QW7 (numTo g (k+1))) 116 (0,0))/\(w2.setCell ⟨w.heap.size+1+1,k,none⟩ (.int .i64 (g k))).heap[w.heap.size]?=some (.cells #[.int .i64 x.a,.int .i64 x.b,.int .i64 x.c,.int .i64 x.d,.bool x.plus] 71 (0,0))/\(w2.setCell ⟨w.heap.size+1+1,k,none⟩ (.int .i64 (g k))).heap[w.heap.size+1]?=some (.cells #[.int .i64 0,.int .i64 0,.int .i64 0,.int .i64 0,.bool false] 71 (0,0))):=⟨by rw[HN.out,<-intArr_set];exact QQ6 HA2.out,(hS.block _ (by omega) (fun e=>by have:=Option.some.inj e;omega)).trans HC2.out.1,(hS.block _ (by omega) (fun e=>by have:=Option.some.inj e;omega)).trans HC2.out.2⟩
    have HNM:Hid (MapA (w2.setCell ⟨w.heap.size+1+1,k,none⟩ (.int .i64 (g k))) gM (addN F x (k+1))/\w.grownBy (w2.setCell ⟨w.heap.size+1+1,k,none⟩ (.int .i64 (g k))) (some gM)):=⟨HM2.out.1.kept hS (fun e=>by have:=Option.some.inj e;omega),QJ7 HM2.out.2 hS (fun q hq=>by have:=Option.some.inj hq;omega)⟩
    clear hm2 hg2 hA2 hS
    go_wp2
    go_roundw
    case rel=>exact⟨k+1,by omega,by go_num,HNA.out,HNM.out⟩
    case measure=>simp only[intOf];omega
  · obtain rfl:k=4:=by omega
    have hA4:=hA.out.1
    rw[numTo_four]at hA4
    have hC:=hA.out.2.1
    have hR:=hA.out.2.2
    have HR:=hidB hR
    have a0:=QQ0 (i:=0) hA4 rfl
    have a1:=QQ0 (i:=1) hA4 rfl
    have a2:=QQ0 (i:=2) hA4 rfl
    have a3:=QQ0 (i:=3) hA4 rfl
    have a4:=QQ0 (i:=4) hC rfl
    have hlt:w.heap.size+1+1<W1.heap.size:=by omega
    clear hA4 hC hR hA
    go_wp2_with (go_at_call 122;refine(crossOf_any ⟨(g 0),(g 1),(g 2),(g 3),x.plus⟩ _).mono ?_;rintro e9 w4 ⟨rfl,hb4⟩;refine Hid.out ?_)
    refine Lib.hid ?_
    have HR4:=hidB ((hb4.block _ (by omega)).trans HR.out)
    have HG4:Hid (w.grownBy w4 (some gM)/\MapA w4 gM (addN F x 4)):=⟨QQ8 hmg.out.2 (QQ5 hb4 (some gM)),hmg.out.1.kept (QQ5 hb4 none) (by simp)⟩
    have hs4:=hb4.size
    clear hb4 a0 a1 a2 a3 a4
    have r0:=QQ0 (i:=0) HR4.out rfl
    have r1:=QQ0 (i:=1) HR4.out rfl
    have r2:=QQ0 (i:=2) HR4.out rfl
    have r3:=QQ0 (i:=3) HR4.out rfl
    have r4:=QQ0 (i:=4) HR4.out rfl
    have f0:=QQ2 (i:=0) HR4.out
    have f1:=QQ2 (i:=1) HR4.out
    have f2:=QQ2 (i:=2) HR4.out
    have f3:=QQ2 (i:=3) HR4.out
    have f4:=QQ2 (i:=4) HR4.out
    go_wp2
    have hX:=QQ6 (i:=4) (u:=.bool x.plus) (QQ6 (i:=3) (u:=.int .i64 (g 3)) (QQ6 (i:=2) (u:=.int .i64 (g 2)) (QQ6 (i:=1) (u:=.int .i64 (g 1)) (QQ6 (i:=0) (u:=.int .i64 (g 0)) HR4.out))))
    have x0:=QQ0 (i:=0) (v:=.int .i64 (g 0)) hX rfl
    have x1:=QQ0 (i:=1) (v:=.int .i64 (g 1)) hX rfl
    have x2:=QQ0 (i:=2) (v:=.int .i64 (g 2)) hX rfl
    have x3:=QQ0 (i:=3) (v:=.int .i64 (g 3)) hX rfl
    have x4:=QQ0 (i:=4) (v:=.bool x.plus) hX rfl
    have hS:w4.grownBy (((((w4.setCell ⟨w.heap.size+1,0,none⟩ (.int .i64 (g 0))).setCell ⟨w.heap.size+1,1,none⟩ (.int .i64 (g 1))).setCell ⟨w.heap.size+1,2,none⟩ (.int .i64 (g 2))).setCell ⟨w.heap.size+1,3,none⟩ (.int .i64 (g 3))).setCell ⟨w.heap.size+1,4,none⟩ (.bool x.plus)) (some (w.heap.size+1)):=QQ8 (QQ8 (QQ8 (QQ8 (QQ7 _ _ _ _) (QQ7 _ _ _ _)) (QQ7 _ _ _ _)) (QQ7 _ _ _ _)) (QQ7 _ _ _ _)
    exact bodyPost_ret (v:=.agg #[.int .i64 (g 0),.int .i64 (g 1),.int .i64 (g 2),.int .i64 (g 3),.bool x.plus]) (by simp[results,Try.results100,go_sem,x0,x1,x2,x3,x4]) rfl ⟨rfl,HG4.out.2.kept hS (fun e=>by have:=Option.some.inj e;omega),QJ7 HG4.out.1 hS (fun q hq=>by have:=Option.some.inj hq;omega)⟩
end Go.Proofs.Ytagaajlbkfkaiaa
