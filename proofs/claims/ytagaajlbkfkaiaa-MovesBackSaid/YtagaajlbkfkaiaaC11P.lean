/- Several texts of the proof, one behind the other. -/
import Derived.Test.YtagaajlbkfkaiaaC9P
import Derived.Test.YtagaajlbkfkaiaaC5P
import Derived.Test.YtagaajlbkfkaiaaS2P
import Derived.Test.YtagaajlbkfkaiaaF2P
/- Where canon.canonical stands. -/
namespace Go.Proofs.Ytagaajlbkfkaiaa
open Go.RowKit Go.Maps
def canGo (C:List Cr):List Nat->List Nat->List Cr
 |_,[]=>[]
 |F,c::os=>canX F (C.getD c Cr.none)::canGo C (addN F (C.getD c Cr.none) 4) os
def canF (C:List Cr):List Nat->List Nat->List Nat
 |F,[]=>F
 |F,c::os=>canF C (addN F (C.getD c Cr.none) 4) os
theorem canGo_len (C:List Cr) (F os:List Nat):(canGo C F os).length=os.length:=by
 induction os generalizing F with
 |nil=>rfl
 |cons c os ih=>simp[canGo,ih]
theorem canF_len (C:List Cr) (F os:List Nat):(canF C F os).length<=F.length+4*os.length:=by
 induction os generalizing F with
 |nil=>simp[canF]
 |cons c os ih=>
  have h1:=ih (addN F (C.getD c Cr.none) 4)
  have h2:=addN_len F (C.getD c Cr.none) 4
  simp only[canF,List.length_cons]
  omega
theorem canGo_snoc (C:List Cr) (F os:List Nat) (c:Nat):canGo C F (os++[c])=canGo C F os++[canX (canF C F os) (C.getD c Cr.none)]:=by
 induction os generalizing F with
 |nil=>rfl
 |cons d os ih=>simp[canGo,canF,ih]
theorem canF_snoc (C:List Cr) (F os:List Nat) (c:Nat):canF C F (os++[c])=addN (canF C F os) (C.getD c Cr.none) 4:=by
 induction os generalizing F with
 |nil=>rfl
 |cons d os ih=>simp[canF,ih]
structure CaAt (w:World) (D0:Array Value) (loops:Int) (gL n:Nat) (vals:Nat->Value×Value) (L:Nat->List Nat) (σ F:List Nat) (acc:List Cr) (v:Value) (W:World):Prop where
 out:OutAt W (w.heap.size+5) (w.heap.size+2) v loops acc
 map:MapA W (w.heap.size+3) F
 dra:W.heap[w.heap.size]?=some (.cells D0 61 (0,0))
 res:W.heap[w.heap.size+1]?=some (.cells #[.slice none 0 0,.int .i64 0] 24 (0,0))
 var:W.heap[w.heap.size+4]?=some (.cells #[.map (some (w.heap.size+3))] 143 (0,0))
 row:W.ownsRow (w.heap.size+5) 148 2 (.slice (some ⟨gL,0,none⟩) n n) n (tvs vals σ)
 ord:∀ p,W.ownsRow (w.heap.size+5) 3 1 (vals p).1 (L p).length (nats (L p))
 bel:Below w.heap.size w W
section
variable {w:World} {D0:Array Value} {loops:Int} {gL n:Nat} {vals:Nat->Value×Value} {L:Nat->List Nat} {σ F:List Nat} {acc:List Cr} {v:Value} {W:World}
theorem CaAt.sz (h:CaAt w D0 loops gL n vals L σ F acc v W):w.heap.size+5<=W.heap.size:=(Array.getElem?_eq_some_iff.1 h.var).1
theorem CaAt.any {W':World} (h:CaAt w D0 loops gL n vals L σ F acc v W) (hg:W.grownBy W' none):CaAt w D0 loops gL n vals L σ F acc v W':=by
 have hs:=h.sz
 exact⟨⟨(hg.block _ (by omega) (by simp)).trans h.out.box,QX0 h.out.row hg⟩,h.map.kept hg (by simp),(hg.block _ (by omega) (by simp)).trans h.dra,(hg.block _ (by omega) (by simp)).trans h.res,(hg.block _ (by omega) (by simp)).trans h.var,QX0 h.row hg,fun p=>QX0 (h.ord p) hg,h.bel.grown hg h.bel.size (fun q hq=>by cases hq)⟩
theorem CaAt.call {W':World} {F':List Nat} (h:CaAt w D0 loops gL n vals L σ F acc v W) (hg:W.grownBy W' (some (w.heap.size+3))) (hM:MapA W' (w.heap.size+3) F'):CaAt w D0 loops gL n vals L σ F' acc v W':=by
 have hs:=h.sz
 have hlow:∀ {e s k:Nat} {u:Value} {xs:List Value},W.ownsRow (w.heap.size+5) e s u k xs->u.ownBlock=none∨u.ownBlock≠some (w.heap.size+3):=fun ho=>Or.inr (fun e=>by have:=(ho.lt _ e).1;omega)
 exact⟨⟨(hg.block _ (by omega) (fun e=>by have:=Option.some.inj e;omega)).trans h.out.box,h.out.row.kept hg (hlow h.out.row)⟩,hM,(hg.block _ (by omega) (fun e=>by have:=Option.some.inj e;omega)).trans h.dra,(hg.block _ (by omega) (fun e=>by have:=Option.some.inj e;omega)).trans h.res,(hg.block _ (by omega) (fun e=>by have:=Option.some.inj e;omega)).trans h.var,h.row.kept hg (hlow h.row),fun p=>(h.ord p).kept hg (hlow (h.ord p)),h.bel.grown hg h.bel.size (fun q hq=>by have:=Option.some.inj hq;omega)⟩
theorem CaAt.app {w8:World} {v8:Value} {x:Cr} {o:Obj} (h:CaAt w D0 loops gL n vals L σ F acc v W) (hown8:w8.ownsRow (w.heap.size+5) 71 5 v8 (acc.length+1) (QQ4 acc++QQ4 [x])) (hg8:(W.alloc o).grownBy w8 v.ownBlock):
    CaAt w D0 loops gL n vals L σ F (acc++[x]) v8 (w8.setCell ⟨w.heap.size+2,0,none⟩ v8):=by
 have hs:=h.sz
 have hS:=QQ7 w8 (w.heap.size+2) 0 v8
 have hs8:=hg8.size
 simp only[World.size_alloc]at hs8
 have hvne:∀ k,k<w.heap.size+5->some k≠v.ownBlock:=fun k hk e=>by have:=(h.out.row.lt k e.symm).1;omega
 have hnone:W.grownBy (W.alloc o) none:=World.grownBy_alloc _ _ _
 have hrow:∀ {e s k:Nat} {u:Value} {xs:List Value},W.ownsRow (w.heap.size+5) e s u k xs->e≠71->(w8.setCell ⟨w.heap.size+2,0,none⟩ v8).ownsRow (w.heap.size+5) e s u k xs:=fun ho he=>by
  have h1:=QX0 ho hnone
  have h2:=h1.kept hg8 (own_ne h1 (QX0 h.out.row hnone) he)
  exact h2.kept hS (Or.inr (fun e=>by have:=(h2.lt _ e).1;omega))
 exact⟨h.out.app (by omega) rfl hown8 hg8,(((h.map.kept hnone (by simp)).kept hg8 (fun e=>hvne _ (by omega) e.symm))).kept hS (fun e=>by have:=Option.some.inj e;omega),h.out.other h.dra (by omega) (by omega) hg8,h.out.other h.res (by omega) (by omega) hg8,h.out.other h.var (by omega) (by omega) hg8,hrow h.row (by decide),fun p=>hrow (h.ord p) (by decide),h.out.below h.bel (by omega) (by omega) (by omega) hg8⟩
end
end Go.Proofs.Ytagaajlbkfkaiaa
/- The walk of canon.canonical. -/
namespace Go.Proofs.Ytagaajlbkfkaiaa
open Go.RowKit Go.Maps
set_option maxHeartbeats 8000000
set_option maxRecDepth 100000
def preO (L:Nat->List Nat) (σ:List Nat) (j i:Nat):List Nat:=((σ.take j).map L).flatten++(L (σ.getD j 0)).take i
theorem preO_next (L:Nat->List Nat) (σ:List Nat) (j i:Nat) (hi:i<(L (σ.getD j 0)).length):preO L σ j (i+1)=preO L σ j i++[(L (σ.getD j 0)).getD i 0]:=by
 unfold preO
 generalize L (σ.getD j 0)=l at hi
 rw[List.append_assoc,List.take_add_one,List.getD_eq_getElem?_getD,List.getElem?_eq_getElem hi]
 rfl
theorem preO_row (L:Nat->List Nat) (σ:List Nat) (j:Nat) (hj:j<σ.length):preO L σ j (L (σ.getD j 0)).length=preO L σ (j+1) 0:=by
 unfold preO
 rw[List.take_length,List.take_zero,List.append_nil,List.take_add_one,List.getElem?_eq_getElem hj,List.map_append,List.flatten_append]
 simp[List.getD,hj]
theorem preO_len (L:Nat->List Nat) (σ:List Nat) (m j i:Nat) (h:∀ p,(L p).length<=m):(preO L σ j i).length<=m*j+m:=by
 unfold preO
 have h1:∀ l:List Nat,((l.map L).flatten).length<=m*l.length:=fun l=>by
  induction l with
  |nil=>simp
  |cons x l ih=>simp only[List.map_cons,List.flatten_cons,List.length_append,List.length_cons,Nat.mul_add];have:=h x;omega
 have h2:=h1 (σ.take j)
 have h3:=h (σ.getD j 0)
 have h4:(σ.take j).length<=j:=by simp;omega
 have h5:=Nat.mul_le_mul_left m h4
 simp only[List.length_append,List.length_take]
 omega
theorem leT_few {C:List Cr} {loops:Int} (hm:mayD C loops=true) (P:List Int) (p k:Nat) (hk:k<=C.length):(leT C P p k).1.length<=16/\∀ x∈(leT C P p k).1,x<C.length:=by
 obtain⟨s1,-,-,-⟩:=QZ2 (QK3 hm)
 induction k with
 |zero=>simp[leT]
 |succ k ih=>
  rw[leT]
  split
  · have h:=teI_ok (C:=C) hm (first:=k) (by omega) C.length
    exact⟨by have:=h.few;unfold te;omega,h.lt⟩
  · exact ih (by omega)
def CanonOut (C:List Cr) (loops:Int) (w:World) (e:Ending) (w':World):Prop:=∃ (v:Value) (n:Nat) (P:List Int) (σ:List Nat),e=.returned (.agg #[v,.int .i64 loops])/\PcsAll C P n/\σ.Perm (List.range n)/\QU7 (fun p=>leT C P p C.length) σ/\w'.ownsRow w.heap.size 71 5 v (canGo C [] ((σ.map fun p=>(leT C P p C.length).1).flatten)).length (QQ4 (canGo C [] ((σ.map fun p=>(leT C P p C.length).1).flatten)))/\Below w.heap.size w w'
theorem canonical_any (a:Option Addr) (cap:Nat) (C:List Cr) (loops:Int) (gF cF gT cT:Nat) (w:World) (hm:mayD C loops=true) (hD:Dr w a cap C gF gT):
    Calls Try.prog 73 #[drV a cap C loops gF cF gT cT] w fun e w'=>CanonOut C loops w e w':=by
 obtain⟨s1,-,-,-⟩:=QZ2 (QK3 hm)
 obtain⟨i0,hi,hz0,hz1,hz2⟩:=info_parts infoCross
 have HM:Hid (mayD C loops=true):=hm
 have HLT:Hid (∀ W,Below w.heap.size w W->Calls Try.prog 99 #[.agg #[.slice a C.length cap,.int .i64 loops,.slice (some ⟨gF,0,none⟩) (2*C.length+1) cF,.slice (some ⟨gT,0,none⟩) (2*C.length+1) cT]] W fun e w'=>LeastOut C W e w'):=fun W hW=>leastT_any a cap C loops gF cF gT cT W hm (hD.on hW)
 have HCR:Hid (∀ W,Below w.heap.size w W->0<C.length->∃ b off,a=some ⟨b,off,none⟩/\b<W.heap.size/\CrossAt W b off C):=fun W hW h0=>by
  obtain⟨b,off,ea,hbw,hC⟩:=hD.cross h0
  exact⟨b,off,ea,Nat.lt_of_lt_of_le hbw hW.size,hC.on hW hbw⟩
 unfold drV
 obtain⟨w1,hw1⟩:∃ w1,w1=((((w.alloc (.cells #[.slice a C.length cap,.int .i64 loops,.slice (some ⟨gF,0,none⟩) (2*C.length+1) cF,.slice (some ⟨gT,0,none⟩) (2*C.length+1) cT] 61)).alloc (.cells #[.slice none 0 0,.int .i64 0] 24)).alloc (.cells #[.slice none 0 0,.int .i64 loops] 24)).alloc (.map #[] 0)).alloc (.cells #[.map (some (w.heap.size+3))] 143):=⟨_,rfl⟩
 have hmm:=makeMapN
 have HW1:Hid (w1=((((w.alloc (.cells #[.slice a C.length cap,.int .i64 loops,.slice (some ⟨gF,0,none⟩) (2*C.length+1) cF,.slice (some ⟨gT,0,none⟩) (2*C.length+1) cT] 61)).alloc (.cells #[.slice none 0 0,.int .i64 0] 24)).alloc (.cells #[.slice none 0 0,.int .i64 loops] 24)).alloc (.map #[] 0)).alloc (.cells #[.map (some (w.heap.size+3))] 143)):=hw1
 have hs1:w1.heap.size=w.heap.size+5:=by rw[hw1];simp
 have HB1:Hid (Below w.heap.size w w1):=(by rw[hw1];exact((QV1 _ _ _ _).alloc (by simp;omega) _).alloc (by simp;omega) _:Below w.heap.size w w1)
 have k0:w1.heap[w.heap.size]?=some (.cells #[.slice a C.length cap,.int .i64 loops,.slice (some ⟨gF,0,none⟩) (2*C.length+1) cF,.slice (some ⟨gT,0,none⟩) (2*C.length+1) cT] 61 (0,0)):=by rw[hw1];exact alloc_old (alloc_old (alloc_old (alloc_old (alloc_at rfl))))
 have k1:w1.heap[w.heap.size+1]?=some (.cells #[.slice none 0 0,.int .i64 0] 24 (0,0)):=by rw[hw1];exact alloc_old (alloc_old (alloc_old (alloc_at (by simp))))
 have k2:w1.heap[w.heap.size+2]?=some (.cells #[.slice none 0 0,.int .i64 loops] 24 (0,0)):=by rw[hw1];exact alloc_old (alloc_old (alloc_at (by simp)))
 have k4:w1.heap[w.heap.size+4]?=some (.cells #[.map (some (w.heap.size+3))] 143 (0,0)):=by rw[hw1];exact alloc_at (by simp)
 have hM0:MapA w1 (w.heap.size+3) []:=by
  rw[hw1]
  have h0:OwnM ((((w.alloc (.cells #[.slice a C.length cap,.int .i64 loops,.slice (some ⟨gF,0,none⟩) (2*C.length+1) cF,.slice (some ⟨gT,0,none⟩) (2*C.length+1) cT] 61)).alloc (.cells #[.slice none 0 0,.int .i64 0] 24)).alloc (.cells #[.slice none 0 0,.int .i64 loops] 24)).alloc (.map #[] 0)) (w.heap.size+3) 0 (.map []:DataW Unit):=by
   have:=World.ownsMap_made (H:=Unit) ((((w.alloc (.cells #[.slice a C.length cap,.int .i64 loops,.slice (some ⟨gF,0,none⟩) (2*C.length+1) cF,.slice (some ⟨gT,0,none⟩) (2*C.length+1) cT] 61)).alloc (.cells #[.slice none 0 0,.int .i64 0] 24)).alloc (.cells #[.slice none 0 0,.int .i64 loops] 24))) Try.prog 3 (plainElem Try.prog 3)
   simp only[World.size_alloc]at this
   exact this
  exact MapA.kept ⟨0,_,h0,Nat.le_refl _,⟨rfl,fun x=>⟨by simp[Maps.has],fun h=>by cases h⟩⟩⟩ (World.grownBy_alloc _ _ none) (by simp)
 have HCA1:Hid (OutAt w1 (w.heap.size+5) (w.heap.size+2) (.slice none 0 0) loops []/\MapA w1 (w.heap.size+3) []/\w1.heap[w.heap.size]?=some (.cells #[.slice a C.length cap,.int .i64 loops,.slice (some ⟨gF,0,none⟩) (2*C.length+1) cF,.slice (some ⟨gT,0,none⟩) (2*C.length+1) cT] 61 (0,0))/\w1.heap[w.heap.size+1]?=some (.cells #[.slice none 0 0,.int .i64 0] 24 (0,0))/\w1.heap[w.heap.size+4]?=some (.cells #[.map (some (w.heap.size+3))] 143 (0,0))):=⟨OutAt.nil k2,hM0,k0,k1,k4⟩
 have t0:w1.cell? ⟨w.heap.size,0,none⟩=some (.slice a C.length cap):=QQ0 k0 rfl
 have t1:w1.cell? ⟨w.heap.size,1,none⟩=some (.int .i64 loops):=QQ0 k0 rfl
 have t2:w1.cell? ⟨w.heap.size,2,none⟩=some (.slice (some ⟨gF,0,none⟩) (2*C.length+1) cF):=QQ0 k0 rfl
 have t3:w1.cell? ⟨w.heap.size,3,none⟩=some (.slice (some ⟨gT,0,none⟩) (2*C.length+1) cT):=QQ0 k0 rfl
 have HS1:Hid (w1.heap.size=w.heap.size+5):=hs1
 have hl1:w.heap.size<w1.heap.size:=by omega
 clear hm hD hw1 hs1 k0 k1 k2 k4 hM0
 go_enter Try.func73,Try.ntmps73
 go_upto_region 4 with(fail)
 rw[show w.heap.size+1+1+1+1=w.heap.size+4 from rfl,show w.heap.size+1+1+1=w.heap.size+3 from rfl,show w.heap.size+1+1=w.heap.size+2 from rfl,<-HW1.out]
 clear hmm
 go_wp2_with (go_at_call 99;refine(HLT.out _ HB1.out).mono ?_;rintro e9 w2 ⟨gL,n,P,vals,σ,rfl,hpc,hσ1,hσ2,hrow,hord,hsh,hb2⟩;refine Hid.out ?_)
 refine Lib.hid ?_
 have hs1:=HS1.out
 have hs2:=hb2.size
 have HPC:Hid (PcsAll C P n):=hpc
 have HS:Hid (σ.Perm (List.range n)/\QU7 (fun p=>leT C P p C.length) σ):=⟨hσ1,hσ2⟩
 have HSH:Hid (∀ p,∃ a k c,(vals p).2=.slice a k c):=hsh
 have hnC:=hpc.few
 have hσl:σ.length=n:=by have:=hσ1.length_eq;simpa using this
 have HSL:Hid (σ.length=n):=hσl
 have HFW:Hid (∀ p,(leT C P p C.length).1.length<=16/\∀ x∈(leT C P p C.length).1,x<C.length):=fun p=>leT_few HM.out P p C.length (Nat.le_refl _)
 have HPL:Hid (∀ j i,j<=n->((preO (fun p=>(leT C P p C.length).1) σ j i)).length<=16*j+16):=fun j i _=>preO_len _ _ _ _ _ (fun p=>(HFW.out p).1)
 have HC2:Hid (CaAt w #[.slice a C.length cap,.int .i64 loops,.slice (some ⟨gF,0,none⟩) (2*C.length+1) cF,.slice (some ⟨gT,0,none⟩) (2*C.length+1) cT] loops gL n vals (fun p=>(leT C P p C.length).1) σ (canF C [] (preO (fun p=>(leT C P p C.length).1) σ 0 0)) (canGo C [] (preO (fun p=>(leT C P p C.length).1) σ 0 0)) (.slice none 0 0) w2):=⟨HCA1.out.1.on hb2,HCA1.out.2.1.kept (QQ5 hb2 none) (by simp),(hb2.block _ (by omega)).trans HCA1.out.2.2.1,(hb2.block _ (by omega)).trans HCA1.out.2.2.2.1,(hb2.block _ (by omega)).trans HCA1.out.2.2.2.2,QX4 hrow (by omega),fun p=>QX4 (hord p) (by omega),HB1.out.trans (hb2.mono (by omega))⟩
 clear hpc hσ1 hσ2 hrow hord hsh hb2 HCA1 HB1 HW1 t0 t1 t2 t3 hσl hs1 HS1 hs2 hl1
 go_wp2
 go_loopw [19] (fun v19 wr=>∃ (j:Nat) (v:Value),j<=n/\v19=.int .i64 (j:Nat)/\Hid (CaAt w #[.slice a C.length cap,.int .i64 loops,.slice (some ⟨gF,0,none⟩) (2*C.length+1) cF,.slice (some ⟨gT,0,none⟩) (2*C.length+1) cT] loops gL n vals (fun p=>(leT C P p C.length).1) σ (canF C [] (preO (fun p=>(leT C P p C.length).1) σ j 0)) (canGo C [] (preO (fun p=>(leT C P p C.length).1) σ j 0)) v wr)) (fun v19 _=>n-(intOf v19).toNat)
 case atStart=>exact⟨0,_,Nat.zero_le _,rfl,HC2.out⟩
 case round =>
  clear HC2
  rename World=>W3
  obtain⟨j,v,hjn,rfl,hca⟩:=hrel
  have hsz:=hca.out.sz
  have hgL:=hca.out.row.lt gL rfl
  by_cases hjl:j<n
  · have hg:=tvs_get vals σ j (by rw[HSL.out];exact hjl)
    have e0:=(hca.out.row.cellAt (j*2) (by omega)).trans hg.1
    have e1:=(hca.out.row.cellAt (j*2+1) (by omega)).trans hg.2
    obtain⟨p,hp⟩:∃ p,σ.getD j 0=p:=⟨_,rfl⟩
    have HPJ:Hid (σ.getD j 0=p):=hp
    rw[hp]at e0 e1
    obtain⟨ao,co,eo⟩:=QX5 (hca.out.ord p)
    obtain⟨ac,nc,cc,ec⟩:=HSH.out p
    rw[eo]at e0
    rw[ec]at e1
    have HOR:Hid (∀ W,CaAt w #[.slice a C.length cap,.int .i64 loops,.slice (some ⟨gF,0,none⟩) (2*C.length+1) cF,.slice (some ⟨gT,0,none⟩) (2*C.length+1) cT] loops gL n vals (fun p=>(leT C P p C.length).1) σ (canF C [] (preO (fun p=>(leT C P p C.length).1) σ j 0)) (canGo C [] (preO (fun p=>(leT C P p C.length).1) σ j 0)) v W->True):=fun _ _=>trivial
    obtain⟨O,hO⟩:∃ O,(leT C P p C.length).1=O:=⟨_,rfl⟩
    have HO:Hid ((leT C P p C.length).1=O):=hO
    simp only[hO]at e0 eo
    have hOl:O.length<=16/\∀ x∈O,x<C.length:=by rw[<-hO];exact HFW.out p
    have hOl1:=hOl.1
    have HOL:Hid (∀ x∈O,x<C.length):=hOl.2
    have hji:(j:Int)<(n:Int):=by omega
    have hgL2:=hgL.2
    have HOW:Hid ((vals p).1=.slice ao O.length co):=eo
    obtain⟨W4,hW4⟩:∃ W4,W4=W3.alloc (.cells #[.slice ao O.length co,.slice ac nc cc] 148):=⟨_,rfl⟩
    have HW4:Hid (W4=W3.alloc (.cells #[.slice ao O.length co,.slice ac nc cc] 148)):=hW4
    have hT4:W4.heap[W3.heap.size]?=some (.cells #[.slice ao O.length co,.slice ac nc cc] 148 (0,0)):=by rw[hW4];exact alloc_at rfl
    have HC4:Hid (CaAt w #[.slice a C.length cap,.int .i64 loops,.slice (some ⟨gF,0,none⟩) (2*C.length+1) cF,.slice (some ⟨gT,0,none⟩) (2*C.length+1) cT] loops gL n vals (fun p=>(leT C P p C.length).1) σ (canF C [] (preO (fun p=>(leT C P p C.length).1) σ j 0)) (canGo C [] (preO (fun p=>(leT C P p C.length).1) σ j 0)) v W4):=(by rw[hW4];exact hca.out.any (World.grownBy_alloc _ _ none):CaAt w #[.slice a C.length cap,.int .i64 loops,.slice (some ⟨gF,0,none⟩) (2*C.length+1) cF,.slice (some ⟨gT,0,none⟩) (2*C.length+1) cT] loops gL n vals (fun p=>(leT C P p C.length).1) σ (canF C [] (preO (fun p=>(leT C P p C.length).1) σ j 0)) (canGo C [] (preO (fun p=>(leT C P p C.length).1) σ j 0)) v W4)
    have b0:W4.cell? ⟨W3.heap.size,0,none⟩=some (.slice ao O.length co):=QQ0 hT4 rfl
    have b1:W3.heap.size<W4.heap.size:=(Array.getElem?_eq_some_iff.1 hT4).1
    clear hp hO eo ec hOl hW4 hg HOR hgL hT4
    go_upto_region 7 with(fail)
    rw[<-HW4.out]
    clear HW4 e0 e1
    go_wp2
    have hdj:decide ((j:Int)<(n:Int))=true:=decide_eq_true hji
    go_loopw [26] (fun v26 wr=>∃ (i:Nat) (v:Value),i<=O.length/\v26=.int .i64 (i:Nat)/\Hid (CaAt w #[.slice a C.length cap,.int .i64 loops,.slice (some ⟨gF,0,none⟩) (2*C.length+1) cF,.slice (some ⟨gT,0,none⟩) (2*C.length+1) cT] loops gL n vals (fun p=>(leT C P p C.length).1) σ (canF C [] (preO (fun p=>(leT C P p C.length).1) σ j i)) (canGo C [] (preO (fun p=>(leT C P p C.length).1) σ j i)) v wr)) (fun v26 _=>O.length-(intOf v26).toNat)
    case atStart=>exact⟨0,_,Nat.zero_le _,rfl,HC4.out⟩
    case round =>
     clear HC4 b0 b1
     rename World=>W5
     obtain⟨i,v,hin,rfl,hcb⟩:=hrel
     have hsz5:=hcb.out.sz
     by_cases hil:i<O.length
     · obtain ⟨g, c', eg, hg1, hg2⟩ := own_block (hcb.out.ord p) (by rw [HO.out]; omega)
       rw[HOW.out]at eg
       injection eg with eg1 eg2 eg3
       clear eg2 eg3
       subst eg1
       have q0:W5.cell? ⟨g,i,none⟩=some (.int .i64 (O.getD i 0:Nat)):=by
        have h:=hcb.out.ord p
        rw[HOW.out,HO.out]at h
        exact(h.cellAt i (by omega)).trans (nats_get O i hil)
       have hcl:O.getD i 0<C.length:=HOL.out _ (by rw[List.getD_eq_getElem?_getD,List.getElem?_eq_getElem hil];exact List.getElem_mem hil)
       have HPN:Hid (preO (fun p=>(leT C P p C.length).1) σ j (i+1)=preO (fun p=>(leT C P p C.length).1) σ j i++[O.getD i 0]):=(by
        have h:=preO_next (fun p=>(leT C P p C.length).1) σ j i
        simp only[HPJ.out,HO.out]at h
        exact h hil:preO (fun p=>(leT C P p C.length).1) σ j (i+1)=preO (fun p=>(leT C P p C.length).1) σ j i++[O.getD i 0])
       obtain⟨c,hc⟩:∃ c,O.getD i 0=c:=⟨_,rfl⟩
       rw[hc]at q0 hcl HPN
       have hpl:=HPL.out j i hjn
       have hFl:=canF_len C [] (preO (fun p=>(leT C P p C.length).1) σ j i)
       have hAl:=canGo_len C [] (preO (fun p=>(leT C P p C.length).1) σ j i)
       have HGN:=canGo_snoc C [] (preO (fun p=>(leT C P p C.length).1) σ j i) c
       have HFN:=canF_snoc C [] (preO (fun p=>(leT C P p C.length).1) σ j i) c
       rw[<-HPN.out]at HGN HFN
       obtain⟨F,hF⟩:∃ F,canF C [] (preO (fun p=>(leT C P p C.length).1) σ j i)=F:=⟨_,rfl⟩
       obtain⟨acc,hacc⟩:∃ acc,canGo C [] (preO (fun p=>(leT C P p C.length).1) σ j i)=acc:=⟨_,rfl⟩
       rw[hF]at hcb hFl HFN
       rw[hacc]at hcb hAl
       rw[hF,hacc]at HGN
       obtain⟨b,off,ea,hbw,hC⟩:=HCR.out W5 hcb.out.bel (by omega)
       subst ea
       obtain⟨x0,x1,x2,x3,x4⟩:=hC c hcl
       have HRG:Hid (∀ k,k<4->0<=(C.getD c Cr.none).arc k/\(C.getD c Cr.none).arc k<=1000):=fun k hk=>by have h:=QK7 HM.out c k hcl hk;have:=h.1;have:=h.2.1;omega
       obtain⟨x,hx⟩:∃ x,C.getD c Cr.none=x:=⟨_,rfl⟩
       rw[hx]at x0 x1 x2 x3 x4 HRG HGN HFN
       have HGN':Hid (canGo C [] (preO (fun p=>(leT C P p C.length).1) σ j (i+1))=acc++[canX F x]):=HGN
       have HFN':Hid (canF C [] (preO (fun p=>(leT C P p C.length).1) σ j (i+1))=addN F x 4):=HFN
       have hF9:F.length<=9000:=by simp only[List.length_nil]at hFl;omega
       have ha9:acc.length<=1000:=by omega
       clear hc hF hacc hx HGN HFN hFl hAl hpl hC
       obtain⟨a3,c3,ev3⟩:=QX5 hcb.out.out.row
       subst ev3
       have t0:W5.cell? ⟨w.heap.size,0,none⟩=some (.slice (some ⟨b,off,none⟩) C.length cap):=QQ0 hcb.out.dra rfl
       have u0:W5.cell? ⟨w.heap.size+2,0,none⟩=some (.slice a3 acc.length c3):=QQ0 hcb.out.out.box rfl
       have hli:(i:Int)<(O.length:Int):=by omega
       have hlc:(c:Int)<(C.length:Int):=by omega
       have hl0:w.heap.size<W5.heap.size:=by omega
       have hl2:w.heap.size+2<W5.heap.size:=by omega
       have hdi:decide ((i:Int)<(O.length:Int))=true:=decide_eq_true hli
       have hdi2:decide (i<O.length)=true:=decide_eq_true hil
       have HVD:Hid (W5.drew.heap[w.heap.size+4]?=some (.cells #[.map (some (w.heap.size+3))] 143 (0,0))/\MapA W5.drew (w.heap.size+3) F):=⟨hcb.out.var,hcb.out.map.kept (QQ5 ((Below.refl _ _).drew) none) (by simp)⟩
       go_upto_region 10 with(fail)
       clear q0
       obtain⟨y,hy⟩:∃ y,canX F x=y:=⟨_,rfl⟩
       have HYY:Hid (canX F x=y):=hy
       have HYP:Hid (y.plus=x.plus):=(by rw[<-hy];rfl:y.plus=x.plus)
       clear hy
       apply cut_told
       case h=>
        intro key
        go_region_law (first
         | (refine QK2 rfl (.tmp 31) (.tmp 40) 22 rfl (w.heap.size + 5) 71 i0 (.agg #[.int .i64 0, .int .i64 0, .int .i64 0, .int .i64 0, .bool false]) 5 40 Try.underlying22 hi hz0 hz1 hz2 rfl (by decide) _ acc.length _ (by simp [Act.eval]) (HCA.out.out.row.alloc _) ⟨wA.heap.size, 0, none⟩ 1 1 [.int .i64 y.a, .int .i64 y.b, .int .i64 y.c, .int .i64 y.d, .bool x.plus] (by simp [Act.eval]) rfl (new_cell5 _ _ _ _ _ _ _) (cells_one [⟨y.a, y.b, y.c, y.d, x.plus⟩]) (by unfold maxLen; omega) (by omega) (by simp; omega) ?_; intro v8 w8 hown8 hg8
            have HOW8:Hid (w8.ownsRow (w.heap.size+5) 71 5 v8 (acc.length+1) (QQ4 acc++QQ4 [⟨y.a,y.b,y.c,y.d,x.plus⟩])):=hown8
            have HG8:Hid ((wA.alloc (.cells #[.int .i64 y.a,.int .i64 y.b,.int .i64 y.c,.int .i64 y.d,.bool x.plus] 71)).grownBy w8 (Value.slice a3 acc.length c3).ownBlock):=hg8
            obtain⟨a8,c8,ev8⟩:=QX5 HOW8.out
            subst ev8
            have hb8:=HCA.out.out.box8 (by omega) HG8.out
            have r0:w8.cell? ⟨w.heap.size+2,0,none⟩=some (.slice a3 acc.length c3):=QQ0 hb8 rfl
            have r1:w8.frozen? ⟨w.heap.size+2,0,none⟩=false:=QQ2 hb8
            have r2:w.heap.size+2<w8.heap.size:=(Array.getElem?_eq_some_iff.1 hb8).1
            clear hown8 hg8 hb8)
         | (go_simp; go_at_call 100; refine (renumbered_can x (w.heap.size + 4) (w.heap.size + 3) F _ HRG.out hF9 HVD.out.1 HVD.out.2).mono ?_; rw [HYY.out]; rintro e9 wA ⟨rfl, hmA, hgA⟩
            have HCA:Hid (CaAt w #[.slice (some ⟨b,off,none⟩) C.length cap,.int .i64 loops,.slice (some ⟨gF,0,none⟩) (2*C.length+1) cF,.slice (some ⟨gT,0,none⟩) (2*C.length+1) cT] loops gL n vals (fun p=>(leT C P p C.length).1) σ (addN F x 4) acc (.slice a3 acc.length c3) wA):=(hcb.out.any (QQ5 ((Below.refl _ _).drew) none)).call hgA hmA
            have a0:wA.cell? ⟨w.heap.size+2,0,none⟩=some (.slice a3 acc.length c3):=QQ0 HCA.out.out.box rfl
            have a1:w.heap.size+2<wA.heap.size:=(Array.getElem?_eq_some_iff.1 HCA.out.out.box).1
            have a2:w.heap.size+5<=wA.heap.size:=HCA.out.sz
            clear hmA hgA))
        all_goals
         have HNX:Hid (CaAt w #[.slice (some ⟨b,off,none⟩) C.length cap,.int .i64 loops,.slice (some ⟨gF,0,none⟩) (2*C.length+1) cF,.slice (some ⟨gT,0,none⟩) (2*C.length+1) cT] loops gL n vals (fun p=>(leT C P p C.length).1) σ (addN F x 4) (acc++[(⟨y.a,y.b,y.c,y.d,x.plus⟩:Cr)]) (.slice a8 (acc.length+1) c8) (w8.setCell ⟨w.heap.size+2,0,none⟩ (.slice a8 (acc.length+1) c8))):=HCA.out.app HOW8.out HG8.out
         clear r0 r1 r2 a0 a1 a2 HCA HOW8 HG8
         generalize w8.setCell ⟨w.heap.size+2,0,none⟩ (.slice a8 (acc.length+1) c8)=W9 at HNX ⊢
         generalize wA.heap.size=zA
         revert a8 c8 W9 zA
         exact key.out
       intro a8 c8 W9 HNX zA
       have HYE:Hid ((⟨y.a,y.b,y.c,y.d,x.plus⟩:Cr)=canX F x):=(by rw[<-HYP.out,HYY.out]:(⟨y.a,y.b,y.c,y.d,x.plus⟩:Cr)=canX F x)
       have HNN:Hid (CaAt w #[.slice (some ⟨b,off,none⟩) C.length cap,.int .i64 loops,.slice (some ⟨gF,0,none⟩) (2*C.length+1) cF,.slice (some ⟨gT,0,none⟩) (2*C.length+1) cT] loops gL n vals (fun p=>(leT C P p C.length).1) σ (canF C [] (preO (fun p=>(leT C P p C.length).1) σ j (i+1))) (canGo C [] (preO (fun p=>(leT C P p C.length).1) σ j (i+1))) (.slice a8 (acc.length+1) c8) W9):=(by rw[HGN'.out,HFN'.out,<-HYE.out];exact HNX.out:CaAt w #[.slice (some ⟨b,off,none⟩) C.length cap,.int .i64 loops,.slice (some ⟨gF,0,none⟩) (2*C.length+1) cF,.slice (some ⟨gT,0,none⟩) (2*C.length+1) cT] loops gL n vals (fun p=>(leT C P p C.length).1) σ (canF C [] (preO (fun p=>(leT C P p C.length).1) σ j (i+1))) (canGo C [] (preO (fun p=>(leT C P p C.length).1) σ j (i+1))) (.slice a8 (acc.length+1) c8) W9)
       clear x0 x1 x2 x3 x4 t0 u0
       go_wp2
       go_roundw
       case rel=>exact⟨i+1,_,by omega,by go_num,HNN.out⟩
       case measure=>simp only[intOf];omega
     · obtain rfl:i=O.length:=by omega
       have HPR:Hid (preO (fun p=>(leT C P p C.length).1) σ j O.length=preO (fun p=>(leT C P p C.length).1) σ (j+1) 0):=(by
        have h:=preO_row (fun p=>(leT C P p C.length).1) σ j (by rw[HSL.out];exact hjl)
        simp only[HPJ.out,HO.out]at h
        exact h:preO (fun p=>(leT C P p C.length).1) σ j O.length=preO (fun p=>(leT C P p C.length).1) σ (j+1) 0)
       have HCN:Hid (CaAt w #[.slice a C.length cap,.int .i64 loops,.slice (some ⟨gF,0,none⟩) (2*C.length+1) cF,.slice (some ⟨gT,0,none⟩) (2*C.length+1) cT] loops gL n vals (fun p=>(leT C P p C.length).1) σ (canF C [] (preO (fun p=>(leT C P p C.length).1) σ (j+1) 0)) (canGo C [] (preO (fun p=>(leT C P p C.length).1) σ (j+1) 0)) v W5):=(by rw[<-HPR.out];exact hcb.out:CaAt w #[.slice a C.length cap,.int .i64 loops,.slice (some ⟨gF,0,none⟩) (2*C.length+1) cF,.slice (some ⟨gT,0,none⟩) (2*C.length+1) cT] loops gL n vals (fun p=>(leT C P p C.length).1) σ (canF C [] (preO (fun p=>(leT C P p C.length).1) σ (j+1) 0)) (canGo C [] (preO (fun p=>(leT C P p C.length).1) σ (j+1) 0)) v W5)
       go_wp2
       go_roundw
       case rel=>exact⟨j+1,_,by omega,by go_num,HCN.out⟩
       case measure=>simp only[intOf];omega
  · obtain rfl:j=n:=by omega
    have HPE:Hid (preO (fun p=>(leT C P p C.length).1) σ j 0=((σ.map fun p=>(leT C P p C.length).1).flatten)):=(by unfold preO;rw[List.take_zero,List.append_nil,<-HSL.out,List.take_length]:preO (fun p=>(leT C P p C.length).1) σ j 0=((σ.map fun p=>(leT C P p C.length).1).flatten))
    rw[HPE.out]at hca
    obtain⟨acc,hacc⟩:∃ acc,canGo C [] ((σ.map fun p=>(leT C P p C.length).1).flatten)=acc:=⟨_,rfl⟩
    have HAC:Hid (canGo C [] ((σ.map fun p=>(leT C P p C.length).1).flatten)=acc):=hacc
    rw[hacc]at hca
    clear hacc
    obtain⟨a3,c3,ev3⟩:=QX5 hca.out.out.row
    subst ev3
    have u0:W3.cell? ⟨w.heap.size+2,0,none⟩=some (.slice a3 acc.length c3):=QQ0 hca.out.out.box rfl
    have u1:W3.cell? ⟨w.heap.size+2,1,none⟩=some (.int .i64 loops):=QQ0 hca.out.out.box rfl
    have r0:W3.cell? ⟨w.heap.size+1,0,none⟩=some (.slice none 0 0):=QQ0 hca.out.res rfl
    have r1:W3.cell? ⟨w.heap.size+1,1,none⟩=some (.int .i64 0):=QQ0 hca.out.res rfl
    have r2:W3.frozen? ⟨w.heap.size+1,0,none⟩=false:=QQ2 hca.out.res
    have r3:W3.frozen? ⟨w.heap.size+1,1,none⟩=false:=QQ2 hca.out.res
    have hl1:w.heap.size+1<W3.heap.size:=by omega
    have hl2:w.heap.size+2<W3.heap.size:=by omega
    clear hgL
    go_wp2
    have hX:=st_block (a:=.slice a3 acc.length c3) (b:=.int .i64 loops) hca.out.res
    have x0:=QQ0 (i:=0) (v:=.slice a3 acc.length c3) hX rfl
    have x1:=QQ0 (i:=1) (v:=.int .i64 loops) hX rfl
    have hG:W3.grownBy ((W3.setCell ⟨w.heap.size+1,0,none⟩ (.slice a3 acc.length c3)).setCell ⟨w.heap.size+1,1,none⟩ (.int .i64 loops)) (some (w.heap.size+1)):=QQ8 (QQ7 _ _ _ _) (QQ7 _ _ _ _)
    refine bodyPost_ret (v:=.agg #[.slice a3 acc.length c3,.int .i64 loops]) (by simp[results,Try.results73,go_sem,x0,x1]) rfl ⟨_,j,P,σ,rfl,HPC.out,HS.out.1,HS.out.2,?_,?_⟩
    · rw[HAC.out]
      exact QX4 (hca.out.out.row.kept hG (Or.inr (fun e=>by have:=(hca.out.out.row.lt _ e).1;omega))) (by omega)
    · exact hca.out.bel.grown hG hca.out.bel.size (fun q hq=>by have:=Option.some.inj hq;omega)
end Go.Proofs.Ytagaajlbkfkaiaa
/- What ref.CanonForm reckons: least tellings of pieces by their codes. -/
namespace Go.Proofs.Ytagaajlbkfkaiaa
open Go.RowKit
theorem teI_len9 {C:List Cr} (f i:Nat):(i<=(teI C f i).1.length/\(teI C f i).2.length=9*i)∨((teI C f i).1.length<=i/\(teI C f i).2.length=9*(teI C f i).1.length):=by
 induction i with
 |zero=>exact Or.inl ⟨Nat.zero_le _,rfl⟩
 |succ i ih=>
  rw[teI]
  by_cases h:i<(teI C f i).1.length
  · rw[if_pos h]
    have hp:=(teK_pre C i (teI C f i) 4).length_le
    have hl:=teK_len C i (teI C f i) 4
    rcases ih with⟨a,b⟩|⟨a,b⟩
    · exact Or.inl ⟨by omega,by omega⟩
    · omega
  · rw[if_neg h]
    rcases ih with⟨a,b⟩|⟨a,b⟩
    · exact Or.inr ⟨by omega,by omega⟩
    · exact Or.inr ⟨by omega,b⟩
def hdTo (V:List Nat):Nat->List Nat
 |0=>[]
 |p+1=>if V.getD p 0=p then hdTo V p++[p] else hdTo V p
def wI (V:List Nat):List Int:=V.map fun x:Nat=>(x:Int)
theorem wI_at (V:List Nat) (k:Nat) (hk:k<V.length):(wI V).getD k 0=(V.getD k 0:Int):=by
 simp[wI,List.getD,hk]
structure RfAt (B:Nat) (Hc Ho:List Nat) (T:Nat->List Nat×List Int) (v4 v5:Value) (cs os:List Value) (W:World):Prop where
 cl:cs.length=Hc.length
 ol:os.length=Ho.length
 cr:W.ownsRow B 46 1 v4 Hc.length cs
 orr:W.ownsRow B 46 1 v5 Ho.length os
 c:∀ i,i<Hc.length->W.ownsRow B 3 1 (cs.getD i (.bool false)) (T (Hc.getD i 0)).2.length (intsV (T (Hc.getD i 0)).2)
 o:∀ i,i<Ho.length->W.ownsRow B 3 1 (os.getD i (.bool false)) (T (Ho.getD i 0)).1.length (nats (T (Ho.getD i 0)).1)
 ne:v4.ownBlock=none∨v4.ownBlock≠v5.ownBlock
section
variable {B:Nat} {Hc Ho:List Nat} {T:Nat->List Nat×List Int} {v4 v5:Value} {cs os:List Value} {W:World}
theorem RfAt.any {W':World} (h:RfAt B Hc Ho T v4 v5 cs os W) (hg:W.grownBy W' none):RfAt B Hc Ho T v4 v5 cs os W':=
 ⟨h.cl,h.ol,QX0 h.cr hg,QX0 h.orr hg,fun i hi=>QX0 (h.c i hi) hg,fun i hi=>QX0 (h.o i hi) hg,h.ne⟩
theorem RfAt.kept {W':World} {B' e n s:Nat} {u:Value} {xs:List Value} (h:RfAt B Hc Ho T v4 v5 cs os W) (ho:W.ownsRow B' e s u n xs) (he1:e≠3) (he2:e≠46) (hg:W.grownBy W' u.ownBlock):RfAt B Hc Ho T v4 v5 cs os W':=
 ⟨h.cl,h.ol,h.cr.kept hg (own_ne h.cr ho (fun e=>he2 e.symm)),h.orr.kept hg (own_ne h.orr ho (fun e=>he2 e.symm)),fun i hi=>(h.c i hi).kept hg (own_ne (h.c i hi) ho (fun e=>he1 e.symm)),fun i hi=>(h.o i hi).kept hg (own_ne (h.o i hi) ho (fun e=>he1 e.symm)),h.ne⟩
theorem RfAt.low {W':World} {q:Nat} (h:RfAt B Hc Ho T v4 v5 cs os W) (hq:q<B) (hg:W.grownBy W' (some q)):RfAt B Hc Ho T v4 v5 cs os W':=by
 have hl:∀ {e s k:Nat} {u:Value} {xs:List Value},W.ownsRow B e s u k xs->u.ownBlock=none∨u.ownBlock≠some q:=fun ho=>Or.inr (fun e=>by have:=(ho.lt _ e).1;omega)
 exact⟨h.cl,h.ol,h.cr.kept hg (hl h.cr),h.orr.kept hg (hl h.orr),fun i hi=>(h.c i hi).kept hg (hl (h.c i hi)),fun i hi=>(h.o i hi).kept hg (hl (h.o i hi)),h.ne⟩
theorem getD_snoc_lt {α:Type} (l:List α) (x d:α) (i:Nat) (h:i<l.length):(l++[x]).getD i d=l.getD i d:=by simp[List.getD,List.getElem?_append_left h]
theorem getD_snoc_eq {α:Type} (l:List α) (x d:α):(l++[x]).getD l.length d=x:=by simp[List.getD]
theorem RfAt.code {p g k cap H:Nat} {u:Value} {W8:World} (h:RfAt B Hc Ho T v4 v5 cs os W) (hk:k=Hc.length+1) (hu:W.ownsRow B 3 1 u (T p).2.length (intsV (T p).2)) (hown:W8.ownsRow B 46 1 (.slice (some ⟨g,0,none⟩) k cap) k (cs++[u])) (hg:W.grownBy W8 v4.ownBlock) (hl:v4.ownBlock=some g∨g=H) (hH:W.heap.size=H):
    RfAt B (Hc++[p]) Ho T (.slice (some ⟨g,0,none⟩) k cap) v5 (cs++[u]) os W8:=by
 subst hk
 have hv:v5.ownBlock=none∨v5.ownBlock≠v4.ownBlock:=by
  cases hv:v5.ownBlock with
  |none=>exact Or.inl rfl
  |some q=>
   refine Or.inr (fun e=>?_)
   have:=h.ne
   rw[hv,<-e]at this
   rcases this with h1|h1
   · cases h1
   · exact h1 rfl
 have hI:∀ {n:Nat} {v:Value} {xs:List Value},W.ownsRow B 3 1 v n xs->W8.ownsRow B 3 1 v n xs:=fun ho=>ho.kept hg (own_ne ho h.cr (by decide))
 refine⟨by simp[h.cl],h.ol,by simpa using hown,h.orr.kept hg hv,fun i hi=>?_,fun i hi=>hI (h.o i hi),?_⟩
 · by_cases e:i<Hc.length
   · rw[getD_snoc_lt _ _ _ _ e,getD_snoc_lt _ _ _ _ (by rw[h.cl];exact e)]
     exact hI (h.c i e)
   · have e2:i=Hc.length:=by simp at hi;omega
     subst e2
     rw[getD_snoc_eq,<-h.cl,getD_snoc_eq]
     exact hI hu
 · refine Or.inr (fun e=>?_)
   have e':some g=v5.ownBlock:=e
   rcases hl with hl|hl
   · rcases hv with h1|h1
     · rw[h1]at e';cases e'
     · exact h1 (by rw[hl,<-e'])
   · have h1:=(h.orr.lt g e'.symm).2
     omega
theorem RfAt.order {p g k cap H:Nat} {u:Value} {W8:World} (h:RfAt B Hc Ho T v4 v5 cs os W) (hk:k=Ho.length+1) (hu:W.ownsRow B 3 1 u (T p).1.length (nats (T p).1)) (hown:W8.ownsRow B 46 1 (.slice (some ⟨g,0,none⟩) k cap) k (os++[u])) (hg:W.grownBy W8 v5.ownBlock) (hl:v5.ownBlock=some g∨g=H) (hH:W.heap.size=H):
    RfAt B Hc (Ho++[p]) T v4 (.slice (some ⟨g,0,none⟩) k cap) cs (os++[u]) W8:=by
 subst hk
 have hI:∀ {n:Nat} {v:Value} {xs:List Value},W.ownsRow B 3 1 v n xs->W8.ownsRow B 3 1 v n xs:=fun ho=>ho.kept hg (own_ne ho h.orr (by decide))
 refine⟨h.cl,by simp[h.ol],h.cr.kept hg h.ne,by simpa using hown,fun i hi=>hI (h.c i hi),fun i hi=>?_,?_⟩
 · by_cases e:i<Ho.length
   · rw[getD_snoc_lt _ _ _ _ e,getD_snoc_lt _ _ _ _ (by rw[h.ol];exact e)]
     exact hI (h.o i e)
   · have e2:i=Ho.length:=by simp at hi;omega
     subst e2
     rw[getD_snoc_eq,<-h.ol,getD_snoc_eq]
     exact hI hu
 · rcases hl with hl|hl
   · rcases h.ne with h1|h1
     · exact Or.inl h1
     · refine Or.inr (fun e=>h1 ?_)
       rw[hl]
       exact e
   · cases hv:v4.ownBlock with
     |none=>exact Or.inl rfl
     |some q=>
      refine Or.inr (fun e=>?_)
      have h1:=(h.cr.lt q hv).2
      have h2:q=g:=Option.some.inj e
      omega
end
end Go.Proofs.Ytagaajlbkfkaiaa
/- What a code tells: mathematics. Pieces of the same code have, numbered as they are told, the same crossings. -/
namespace Go.Proofs.Ytagaajlbkfkaiaa
theorem enS_one {C:List Cr} {loops:Int} (hm:mayD C loops=true) (k s:Nat) (hk:k<C.length) (hs:s<4):enS C ((C.getD k Cr.none).arc s).toNat ((C.getD k Cr.none).comes s)=s:=by
 have hf:=QK7 hm k s hk hs
 have g1:=hf.1
 have g2:=hf.2.1
 have e:=end_one hm ((C.getD k Cr.none).arc s).toNat (by omega) (by omega) ((C.getD k Cr.none).comes s) k s hk hs (by omega) rfl
 unfold enS
 rw[e]
 rfl
theorem spot_eq {C:List Cr} {loops:Int} (hm:mayD C loops=true) {c s d t:Nat} (hc:c<C.length) (hs:s<4) (hd:d<C.length) (ht:t<4) (h:arcN (C.getD c Cr.none) s=arcN (C.getD d Cr.none) t):(c=d/\s=t)∨(nbC C c s=d/\nbS C c s=t):=by
 unfold arcN at h
 have a1:=(en_one hm c s hc hs).2.2
 have a2:=enS_one hm c s hc hs
 have b1:=(en_one hm d t hd ht).2.2
 have b2:=enS_one hm d t hd ht
 by_cases e:(C.getD c Cr.none).comes s=(C.getD d Cr.none).comes t
 · left
   rw[h,e]at a1 a2
   exact⟨a1.symm.trans b1,a2.symm.trans b2⟩
 · right
   have e2:(!(C.getD c Cr.none).comes s)=(C.getD d Cr.none).comes t:=by
    cases h1:(C.getD c Cr.none).comes s<;>cases h2:(C.getD d Cr.none).comes t<;>simp_all
   unfold nbC nbS
   rw[h,e2]
   exact⟨b1,b2⟩
theorem spot_nb {C:List Cr} {loops:Int} (hm:mayD C loops=true) {c s:Nat} (hc:c<C.length) (hs:s<4):arcN (C.getD (nbC C c s) Cr.none) (nbS C c s)=arcN (C.getD c Cr.none) s:=by
 have h:=en_one hm c s hc hs
 have g:=(QJ9 hm _ (!(C.getD c Cr.none).comes s) h.1 h.2.1).2.2.2.1
 unfold arcN nbC nbS
 rw[g]
 rfl
structure ToldAt (C:List Cr) (p:List Nat×List Int) (l:Nat):Prop where
 sg:p.2.getD (9*l) 0=if(C.getD (p.1.getD l 0) Cr.none).plus=true then 1 else 0
 mem:∀ s,s<4->nbC C (p.1.getD l 0) s∈p.1
 nb:∀ s,s<4->p.2.getD (9*l+1+2*s) 0=(p.1.idxOf (nbC C (p.1.getD l 0) s):Int)
 side:∀ s,s<4->p.2.getD (9*l+2+2*s) 0=(nbS C (p.1.getD l 0) s:Int)
theorem getD_pre {α:Type} {a b:List α} (h:a <+: b) (i:Nat) (hi:i<a.length) (d:α):b.getD i d=a.getD i d:=by
 obtain⟨t,rfl⟩:=h
 simp[List.getD,List.getElem?_append_left hi]
theorem idxOf_pre {a b:List Nat} (h:a <+: b) {x:Nat} (hx:x∈a):b.idxOf x=a.idxOf x:=by
 obtain⟨t,rfl⟩:=h
 rw[List.idxOf_append,if_pos hx]
theorem ToldAt.ext {C:List Cr} {p q:List Nat×List Int} {l:Nat} (h:ToldAt C p l) (h1:p.1 <+: q.1) (h2:p.2 <+: q.2) (hl:l<p.1.length) (hc:9*l+9<=p.2.length):ToldAt C q l:=by
 have e:=getD_pre h1 l hl 0
 refine⟨?_,fun s hs=>?_,fun s hs=>?_,fun s hs=>?_⟩
 · rw[e,getD_pre h2 _ (by omega)];exact h.sg
 · rw[e];exact h1.subset (h.mem s hs)
 · rw[e,getD_pre h2 _ (by omega),idxOf_pre h1 (h.mem s hs)];exact h.nb s hs
 · rw[e,getD_pre h2 _ (by omega)];exact h.side s hs
theorem teS_pre2 (C:List Cr) (c:Nat) (p:List Nat×List Int) (s:Nat):p.2 <+: (teS C c p s).2:=List.prefix_append _ _
theorem teK_pre2 (C:List Cr) (i:Nat) (p:List Nat×List Int) (k:Nat):p.2 <+: (teK C i p k).2:=by
 induction k with
 |zero=>exact List.prefix_append _ _
 |succ k ih=>exact ih.trans (teS_pre2 _ _ _ _)
theorem teK_told (C:List Cr) (i:Nat) (p:List Nat×List Int) (hi:i<p.1.length) (hc:p.2.length=9*i):ToldAt C (teK C i p 4) i:=by
 have hp1:p.1 <+: (teK C i p 4).1:=teK_pre C i p 4
 have ei:(teK C i p 4).1.getD i 0=p.1.getD i 0:=getD_pre hp1 i hi 0
 have step:∀ k,k<=4->(teK C i p k).2.getD (9*i) 0=(if(C.getD (p.1.getD i 0) Cr.none).plus=true then 1 else 0)/\∀ s,s<k->nbC C (p.1.getD i 0) s∈(teK C i p k).1/\(teK C i p k).2.getD (9*i+1+2*s) 0=((teK C i p k).1.idxOf (nbC C (p.1.getD i 0) s):Int)/\(teK C i p k).2.getD (9*i+2+2*s) 0=(nbS C (p.1.getD i 0) s:Int):=by
  intro k
  induction k with
  |zero=>
   intro _
   refine⟨?_,fun s hs=>absurd hs (Nat.not_lt_zero _)⟩
   rw[teK,<-hc]
   simp[List.getD]
  |succ k ih=>
   intro hk
   obtain⟨g1,g2⟩:=ih (by omega)
   have hl:=teK_len C i p k
   have q1:(teK C i p k).1 <+: (teK C i p (k+1)).1:=teS_pre _ _ _ _
   have q2:(teK C i p k).2 <+: (teK C i p (k+1)).2:=teS_pre2 _ _ _ _
   refine⟨by rw[getD_pre q2 _ (by omega)];exact g1,fun s hs=>?_⟩
   by_cases e:s<k
   · obtain⟨m1,m2,m3⟩:=g2 s e
     exact⟨q1.subset m1,by rw[getD_pre q2 _ (by omega),idxOf_pre q1 m1];exact m2,by rw[getD_pre q2 _ (by omega)];exact m3⟩
   · have e2:s=k:=by omega
     subst e2
     rw[teK]
     unfold teS
     simp only
     generalize hO:(if nbC C (p.1.getD i 0) s∈(teK C i p s).1 then(teK C i p s).1 else(teK C i p s).1++[nbC C (p.1.getD i 0) s])=o
     have hmo:nbC C (p.1.getD i 0) s∈o:=by
      rw[<-hO]
      split
      · assumption
      · simp
     refine⟨hmo,?_,?_⟩
     · rw[List.getD_eq_getElem?_getD,List.getElem?_append_right (by omega),show 9*i+1+2*s-(teK C i p s).2.length=0 by omega]
       rfl
     · rw[List.getD_eq_getElem?_getD,List.getElem?_append_right (by omega),show 9*i+2+2*s-(teK C i p s).2.length=1 by omega]
       rfl
 obtain⟨h1,h2⟩:=step 4 (Nat.le_refl _)
 exact⟨by rw[ei];exact h1,fun s hs=>by rw[ei];exact(h2 s hs).1,fun s hs=>by rw[ei];exact(h2 s hs).2.1,fun s hs=>by rw[ei];exact(h2 s hs).2.2⟩
theorem teI_told (C:List Cr) (f i:Nat):∀ l,l<i->l<(teI C f i).1.length->ToldAt C (teI C f i) l:=by
 induction i with
 |zero=>intro l hl;omega
 |succ i ih=>
  intro l hl hll
  rw[teI]at hll ⊢
  by_cases h:i<(teI C f i).1.length
  · rw[if_pos h]at hll ⊢
    have h9:(teI C f i).2.length=9*i:=by
     rcases teI_len9 (C:=C) f i with⟨_,b⟩|⟨a,b⟩
     · exact b
     · omega
    by_cases e:l=i
    · subst e
      exact teK_told C l _ h h9
    · exact(ih l (by omega) (by omega)).ext (teK_pre C i _ 4) (teK_pre2 C i _ 4) (by omega) (by omega)
  · rw[if_neg h]at hll ⊢
    exact ih l (by omega) hll
theorem te_told {C:List Cr} {loops:Int} (hm:mayD C loops=true) {f:Nat} (hf:f<C.length):∀ l,l<(te C f).1.length->ToldAt C (te C f) l:=by
 intro l hl
 have h1:=(teI_ok hm hf C.length).few
 unfold te at hl ⊢
 exact teI_told C f C.length l (by omega) hl
theorem teI_con {C:List Cr} {loops:Int} (hm:mayD C loops=true) {f:Nat} (hf:f<C.length) (i:Nat):∀ x,x∈(teI C f i).1->Con (arcE C) f x:=by
 induction i with
 |zero=>
  intro x hx
  have e:x=f:=by simpa[teI] using hx
  rw[e];exact Con.refl _ _
 |succ i ih=>
  rw[teI]
  by_cases h:i<(teI C f i).1.length
  · rw[if_pos h]
    have hok:=teI_ok hm hf i
    have hci:(teI C f i).1.getD i 0∈(teI C f i).1:=by rw[List.getD_eq_getElem?_getD,List.getElem?_eq_getElem h];exact List.getElem_mem h
    have step:∀ k,k<=4->∀ x,x∈(teK C i (teI C f i) k).1->Con (arcE C) f x:=by
     intro k
     induction k with
     |zero=>intro _ x hx;exact ih x hx
     |succ k ihk=>
      intro hk x hx
      rw[teK]at hx
      unfold teS at hx
      simp only at hx
      split at hx
      · exact ihk (by omega) x hx
      · rcases List.mem_append.1 hx with hx|hx
        · exact ihk (by omega) x hx
        · rw[List.mem_singleton.1 hx]
          exact(ih _ hci).trans (nb_con hm _ k (hok.lt _ hci) (by omega))
    exact step 4 (Nat.le_refl _)
  · rw[if_neg h];exact ih
theorem te_con {C:List Cr} {loops:Int} (hm:mayD C loops=true) {f:Nat} (hf:f<C.length):∀ x,x∈(te C f).1->Con (arcE C) f x:=teI_con hm hf C.length
theorem te_ok {C:List Cr} {loops:Int} (hm:mayD C loops=true) {f:Nat} (hf:f<C.length):TeOk C (te C f):=teI_ok hm hf C.length
end Go.Proofs.Ytagaajlbkfkaiaa
/- Both ways of making the canonical form come to one: mathematics. -/
namespace Go.Proofs.Ytagaajlbkfkaiaa
theorem idxOf_map {ρ:Nat->Nat} {A:Nat->Prop} (hinj:∀ x y,A x->A y->ρ x=ρ y->x=y):∀ (F:List Nat) (x:Nat),(∀ y,y∈F->A y)->A x->(F.map ρ).idxOf (ρ x)=F.idxOf x
 |[],_,_,_=>rfl
 |z::F,x,hF,hx=>by
  rw[List.map_cons,List.idxOf_cons,List.idxOf_cons,idxOf_map hinj F x (fun y hy=>hF y (List.mem_cons_of_mem _ hy)) hx]
  by_cases e:z=x
  · subst e;simp
  · have e2:ρ z≠ρ x:=fun h=>e (hinj z x (hF z (List.mem_cons_self)) hx h)
    rw[beq_eq_false_iff_ne.2 e,beq_eq_false_iff_ne.2 e2]
theorem mem_map_inj {ρ:Nat->Nat} {A:Nat->Prop} (hinj:∀ x y,A x->A y->ρ x=ρ y->x=y) {F:List Nat} {x:Nat} (hF:∀ y,y∈F->A y) (hx:A x):ρ x∈F.map ρ↔x∈F:=by
 constructor
 · intro h
   obtain⟨y,hy,e⟩:=List.mem_map.1 h
   rw[<-hinj y x (hF y hy) hx e];exact hy
 · intro h;exact List.mem_map_of_mem h
theorem addF_map {ρ:Nat->Nat} {A:Nat->Prop} (hinj:∀ x y,A x->A y->ρ x=ρ y->x=y) {F:List Nat} {x:Nat} (hF:∀ y,y∈F->A y) (hx:A x):addF (F.map ρ) (ρ x)=(addF F x).map ρ:=by
 unfold addF
 by_cases h:x∈F
 · rw[if_pos h,if_pos ((mem_map_inj hinj hF hx).2 h)]
 · rw[if_neg h,if_neg (fun e=>h ((mem_map_inj hinj hF hx).1 e))];simp
theorem addF_mem {A:Nat->Prop} {F:List Nat} {x:Nat} (hF:∀ y,y∈F->A y) (hx:A x):∀ y,y∈addF F x->A y:=by
 intro y hy
 unfold addF at hy
 split at hy
 · exact hF y hy
 · rcases List.mem_append.1 hy with h|h
   · exact hF y h
   · rw[List.mem_singleton.1 h];exact hx
theorem addN_map {ρ:Nat->Nat} {A:Nat->Prop} (hinj:∀ x y,A x->A y->ρ x=ρ y->x=y) {F:List Nat} {x y:Cr} (hF:∀ z,z∈F->A z) (h:∀ s,s<4->A (arcN x s)/\arcN y s=ρ (arcN x s)):∀ k,k<=4->addN (F.map ρ) y k=(addN F x k).map ρ/\∀ z,z∈addN F x k->A z:=by
 intro k
 induction k with
 |zero=>intro _;exact⟨rfl,hF⟩
 |succ k ih=>
  intro hk
  obtain⟨h1,h2⟩:=ih (by omega)
  obtain⟨g1,g2⟩:=h k (by omega)
  rw[addN,addN,h1,g2]
  exact⟨addF_map hinj h2 g1,addF_mem h2 g1⟩
theorem canX_map {ρ:Nat->Nat} {A:Nat->Prop} (hinj:∀ x y,A x->A y->ρ x=ρ y->x=y) {F:List Nat} {x y:Cr} (hF:∀ z,z∈F->A z) (h:∀ s,s<4->A (arcN x s)/\arcN y s=ρ (arcN x s)) (hp:y.plus=x.plus):canX (F.map ρ) y=canX F x:=by
 have hn:∀ k,k<4->canN (F.map ρ) y k=canN F x k:=fun k hk=>by
  obtain⟨h1,h2⟩:=addN_map hinj hF h (k+1) (by omega)
  obtain⟨g1,g2⟩:=h k hk
  unfold canN
  rw[h1,g2,idxOf_map hinj _ _ h2 g1]
 unfold canX
 rw[hn 0 (by omega),hn 1 (by omega),hn 2 (by omega),hn 3 (by omega),hp]
theorem canGo_map {C:List Cr} {ρ:Nat->Nat} {A:Nat->Prop} (hinj:∀ x y,A x->A y->ρ x=ρ y->x=y):∀ (o1 o2 F:List Nat),o1.length=o2.length->(∀ z,z∈F->A z)->
    (∀ q,q∈o1.zip o2->(∀ s,s<4->A (arcN (C.getD q.1 Cr.none) s)/\arcN (C.getD q.2 Cr.none) s=ρ (arcN (C.getD q.1 Cr.none) s))/\(C.getD q.2 Cr.none).plus=(C.getD q.1 Cr.none).plus)->canGo C (F.map ρ) o2=canGo C F o1
 |[],[],_,_,_,_=>rfl
 |[],_::_,_,h,_,_=>by simp at h
 |_::_,[],_,h,_,_=>by simp at h
 |c::o1,d::o2,F,h,hF,hz=>by
  obtain⟨g1,g2⟩:=hz (c,d) (by simp)
  obtain⟨h1,h2⟩:=addN_map hinj hF g1 4 (Nat.le_refl _)
  rw[canGo,canGo,canX_map hinj hF g1 g2,h1,canGo_map hinj o1 o2 _ (by simpa using h) h2 (fun q hq=>hz q (by simp[hq]))]
def IsTe (C:List Cr) (p:List Nat×List Int):Prop:=∃ k,k<C.length/\p=te C k
def ords (A:List (List Nat×List Int)):List Nat:=(A.map Prod.fst).flatten
theorem keyT_eq {p q:List Nat×List Int} (h:keyT p=keyT q):p.1.length=q.1.length/\p.2=q.2:=by
 unfold keyT at h
 injection h with h1 h2
 exact⟨by omega,h2⟩
theorem zip_ords:∀ (A B:List (List Nat×List Int)),A.map keyT=B.map keyT->(ords A).zip (ords B)=((A.zip B).map fun a=>a.1.1.zip a.2.1).flatten/\(ords A).length=(ords B).length
 |[],[],_=>⟨rfl,rfl⟩
 |[],_::_,h=>by simp at h
 |_::_,[],h=>by simp at h
 |p::A,q::B,h=>by
  rw[List.map_cons,List.map_cons]at h
  injection h with h1 h2
  obtain⟨i1,i2⟩:=zip_ords A B h2
  have hl:=(keyT_eq h1).1
  have e1:ords (p::A)=p.1++ords A:=by simp[ords]
  have e2:ords (q::B)=q.1++ords B:=by simp[ords]
  refine⟨?_,?_⟩
  · rw[e1,e2,List.zip_append hl,i1]
    simp
  · rw[e1,e2,List.length_append,List.length_append,hl,i2]
theorem zip_keys:∀ (A B:List (List Nat×List Int)),A.map keyT=B.map keyT->∀ a,a∈A.zip B->keyT a.1=keyT a.2
 |[],_,_,a,ha=>by simp at ha
 |_::_,[],_,a,ha=>by simp at ha
 |p::A,q::B,h,a,ha=>by
  rw[List.map_cons,List.map_cons]at h
  injection h with h1 h2
  rw[List.zip_cons_cons]at ha
  rcases List.mem_cons.1 ha with e|e
  · rw[e];exact h1
  · exact zip_keys A B h2 a e
theorem zip_at {A B:List (List Nat×List Int)} (hk:A.map keyT=B.map keyT) {c d:Nat} (h:(c,d)∈(ords A).zip (ords B)):∃ p q l,(p,q)∈A.zip B/\l<p.1.length/\p.1.getD l 0=c/\q.1.getD l 0=d:=by
 rw[(zip_ords A B hk).1]at h
 obtain⟨z,hz,hcd⟩:=List.mem_flatten.1 h
 obtain⟨a,ha,rfl⟩:=List.mem_map.1 hz
 have hl:=(keyT_eq (zip_keys A B hk a ha)).1
 obtain⟨l,hlt,he⟩:=List.getElem_of_mem hcd
 have h1:l<a.1.1.length:=by simp at hlt;omega
 rw[List.getElem_zip]at he
 injection he with e1 e2
 exact⟨a.1,a.2,l,ha,h1,by rw[List.getD_eq_getElem?_getD,List.getElem?_eq_getElem h1];exact e1,by rw[List.getD_eq_getElem?_getD,List.getElem?_eq_getElem (by omega)];exact e2⟩
theorem zip_of {A B:List (List Nat×List Int)} (hk:A.map keyT=B.map keyT) {p q:List Nat×List Int} {l:Nat} (ha:(p,q)∈A.zip B) (hl:l<p.1.length):(p.1.getD l 0,q.1.getD l 0)∈(ords A).zip (ords B):=by
 rw[(zip_ords A B hk).1]
 have hq:=(keyT_eq (zip_keys A B hk _ ha)).1
 have hq':l<q.1.length:=by have:p.1.length=q.1.length:=hq;omega
 refine List.mem_flatten.2 ⟨p.1.zip q.1,List.mem_map.2 ⟨(p,q),ha,rfl⟩,?_⟩
 refine List.mem_iff_getElem?.2 ⟨l,?_⟩
 rw[List.getElem?_zip_eq_some]
 exact⟨by simp[List.getD,hl],by simp[List.getD,hq']⟩
theorem zip_one {l1 l2:List Nat} (hn:l1.Nodup) {c x y:Nat} (h1:(c,x)∈l1.zip l2) (h2:(c,y)∈l1.zip l2):x=y:=by
 obtain⟨i,hi⟩:=List.mem_iff_getElem?.1 h1
 obtain⟨j,hj⟩:=List.mem_iff_getElem?.1 h2
 rw[List.getElem?_zip_eq_some]at hi hj
 obtain⟨li,ei⟩:=List.getElem?_eq_some_iff.1 hi.1
 obtain⟨lj,ej⟩:=List.getElem?_eq_some_iff.1 hj.1
 have e:i=j:=(List.getElem_inj hn).1 (ei.trans ej.symm)
 subst e
 exact Option.some.inj (hi.2.symm.trans hj.2)
theorem zip_flip {l1 l2:List Nat} {c d:Nat} (h:(c,d)∈l1.zip l2):(d,c)∈l2.zip l1:=by
 obtain⟨i,hi⟩:=List.mem_iff_getElem?.1 h
 rw[List.getElem?_zip_eq_some]at hi
 exact List.mem_iff_getElem?.2 ⟨i,by rw[List.getElem?_zip_eq_some];exact⟨hi.2,hi.1⟩⟩
theorem getD_idxOf {l:List Nat} {x:Nat} (h:x∈l):l.getD (l.idxOf x) 0=x:=by
 have hl:=List.idxOf_lt_length_of_mem h
 rw[List.getD_eq_getElem?_getD,List.getElem?_eq_getElem hl]
 exact List.getElem_idxOf hl
theorem arcs_go {C:List Cr} {loops:Int} (hm:mayD C loops=true) {A B:List (List Nat×List Int)} (hA:∀ p,p∈A->IsTe C p) (hB:∀ p,p∈B->IsTe C p) (hk:A.map keyT=B.map keyT) (nd:(ords A).Nodup) {c1 c2 d1 d2 s t:Nat} (h1:(c1,c2)∈(ords A).zip (ords B)) (h2:(d1,d2)∈(ords A).zip (ords B)) (hs:s<4) (ht:t<4) (he:arcN (C.getD c1 Cr.none) s=arcN (C.getD d1 Cr.none) t):arcN (C.getD c2 Cr.none) s=arcN (C.getD d2 Cr.none) t:=by
 obtain⟨p,q,l,hpq,hl,ec1,ec2⟩:=zip_at hk h1
 obtain⟨p',q',l',hpq',hl',ed1,ed2⟩:=zip_at hk h2
 have hkey:keyT p=keyT q:=zip_keys A B hk _ hpq
 obtain⟨hln,hcd⟩:=keyT_eq hkey
 obtain⟨k,hkC,ep⟩:=hA p (List.of_mem_zip hpq).1
 obtain⟨k2,hk2C,eq⟩:=hB q (List.of_mem_zip hpq).2
 obtain⟨k3,hk3C,ep'⟩:=hA p' (List.of_mem_zip hpq').1
 have hc1:c1<C.length:=by
  rw[<-ec1]
  rw[ep]at hl ⊢
  exact(te_ok hm hkC).lt _ (by rw[List.getD_eq_getElem?_getD,List.getElem?_eq_getElem hl];exact List.getElem_mem hl)
 have hd1:d1<C.length:=by
  rw[<-ed1]
  rw[ep']at hl' ⊢
  exact(te_ok hm hk3C).lt _ (by rw[List.getD_eq_getElem?_getD,List.getElem?_eq_getElem hl'];exact List.getElem_mem hl')
 have hlq:l<q.1.length:=by omega
 have hc2:c2<C.length:=by
  rw[<-ec2]
  rw[eq]at hlq ⊢
  exact(te_ok hm hk2C).lt _ (by rw[List.getD_eq_getElem?_getD,List.getElem?_eq_getElem hlq];exact List.getElem_mem hlq)
 rcases spot_eq hm hc1 hs hd1 ht he with⟨e1,e2⟩|⟨e1,e2⟩
 · subst e1 e2
   rw[zip_one nd h1 h2]
 · have tp:ToldAt C p l:=by rw[ep]at hl ⊢;exact te_told hm hkC l hl
   have tq:ToldAt C q l:=by rw[eq]at hlq ⊢;exact te_told hm hk2C l hlq
   have m1:=tp.mem s hs
   have n1:=tp.nb s hs
   have s1:=tp.side s hs
   have m2:=tq.mem s hs
   have n2:=tq.nb s hs
   have s2:=tq.side s hs
   rw[ec1,e1]at m1 n1
   rw[ec1,e2]at s1
   rw[ec2]at m2 n2 s2
   rw[hcd,n2]at n1
   rw[hcd,s2]at s1
   have hid:q.1.idxOf (nbC C c2 s)=p.1.idxOf d1:=by omega
   have hsd:nbS C c2 s=t:=by omega
   have hx:=zip_of hk hpq (List.idxOf_lt_length_of_mem m1)
   rw[getD_idxOf m1,<-hid,getD_idxOf m2]at hx
   have hd2:d2=nbC C c2 s:=zip_one nd h2 hx
   rw[hd2,<-hsd]
   exact(spot_nb hm hc2 hs).symm
theorem plus_go {C:List Cr} {loops:Int} (hm:mayD C loops=true) {A B:List (List Nat×List Int)} (hA:∀ p,p∈A->IsTe C p) (hB:∀ p,p∈B->IsTe C p) (hk:A.map keyT=B.map keyT) {c1 c2:Nat} (h1:(c1,c2)∈(ords A).zip (ords B)):(C.getD c2 Cr.none).plus=(C.getD c1 Cr.none).plus:=by
 obtain⟨p,q,l,hpq,hl,ec1,ec2⟩:=zip_at hk h1
 obtain⟨hln,hcd⟩:=keyT_eq (zip_keys A B hk _ hpq)
 obtain⟨k,hkC,ep⟩:=hA p (List.of_mem_zip hpq).1
 obtain⟨k2,hk2C,eq⟩:=hB q (List.of_mem_zip hpq).2
 have hlq:l<q.1.length:=by have:p.1.length=q.1.length:=hln;omega
 have tp:ToldAt C p l:=by rw[ep]at hl ⊢;exact te_told hm hkC l hl
 have tq:ToldAt C q l:=by rw[eq]at hlq ⊢;exact te_told hm hk2C l hlq
 have g1:=tp.sg
 have g2:=tq.sg
 have hcd':p.2=q.2:=hcd
 rw[ec1,hcd']at g1
 rw[ec2]at g2
 rw[g2]at g1
 cases h3:(C.getD c1 Cr.none).plus<;>cases h4:(C.getD c2 Cr.none).plus<;>simp_all
theorem can_same {C:List Cr} {loops:Int} (hm:mayD C loops=true) {A B:List (List Nat×List Int)} (hA:∀ p,p∈A->IsTe C p) (hB:∀ p,p∈B->IsTe C p) (hk:A.map keyT=B.map keyT) (ndA:(ords A).Nodup) (ndB:(ords B).Nodup):canGo C [] (ords B)=canGo C [] (ords A):=by
 have hex:∀ x:Nat,∃ y:Nat,∀ q,q∈(ords A).zip (ords B)->∀ s,s<4->arcN (C.getD q.1 Cr.none) s=x->arcN (C.getD q.2 Cr.none) s=y:=by
  intro x
  by_cases h:∃ q s,q∈(ords A).zip (ords B)/\s<4/\arcN (C.getD q.1 Cr.none) s=x
  · obtain⟨q,s,hq,hs,he⟩:=h
    exact⟨arcN (C.getD q.2 Cr.none) s,fun q' hq' s' hs' he'=>arcs_go hm hA hB hk ndA (c1:=q'.1) (c2:=q'.2) (d1:=q.1) (d2:=q.2) hq' hq hs' hs (he'.trans he.symm)⟩
  · exact⟨0,fun q hq s hs he=>absurd ⟨q,s,hq,hs,he⟩ h⟩
 obtain⟨ρ,hρ⟩:=Classical.axiomOfChoice hex
 have hinj:∀ x y,(∃ q s,q∈(ords A).zip (ords B)/\s<4/\arcN (C.getD q.1 Cr.none) s=x)->(∃ q s,q∈(ords A).zip (ords B)/\s<4/\arcN (C.getD q.1 Cr.none) s=y)->ρ x=ρ y->x=y:=by
  rintro x y ⟨q,s,hq,hs,rfl⟩ ⟨r,t,hr,ht,rfl⟩ e
  rw[<-hρ _ q hq s hs rfl,<-hρ _ r hr t ht rfl]at e
  exact arcs_go hm hB hA hk.symm ndB (c1:=q.2) (c2:=q.1) (d1:=r.2) (d2:=r.1) (zip_flip hq) (zip_flip hr) hs ht e
 exact canGo_map hinj (ords A) (ords B) [] (zip_ords A B hk).2 (fun z hz=>by cases hz) (fun q hq=>⟨fun s hs=>⟨⟨q,s,hq,hs,rfl⟩,hρ _ q hq s hs rfl⟩,plus_go hm hA hB hk (c1:=q.1) (c2:=q.2) hq⟩)
end Go.Proofs.Ytagaajlbkfkaiaa
/- The canonical forms of canon.Canon and ref.CanonForm are one: mathematics. -/
namespace Go.Proofs.Ytagaajlbkfkaiaa
theorem sort_eq:∀ (a b:List (List Int)),a.Perm b->a.Pairwise (fun x y=>¬lexC y x<0)->b.Pairwise (fun x y=>¬lexC y x<0)->a=b
 |[],b,h,_,_=>(List.Perm.nil_eq h)
 |x::a,[],h,_,_=>by have:=h.length_eq;simp at this
 |x::a,y::b,h,ha,hb=>by
  have hx:=List.pairwise_cons.1 ha
  have hy:=List.pairwise_cons.1 hb
  have e:x=y:=by
   rcases lexC_flip x y with g|g|g
   · have hm:x∈y::b:=h.subset (List.mem_cons_self)
     rcases List.mem_cons.1 hm with e|e
     · exact e
     · exact absurd g (hy.1 x e)
   · exact lexC_zero _ _ g
   · have hm:y∈x::a:=h.symm.subset (List.mem_cons_self)
     rcases List.mem_cons.1 hm with e|e
     · exact e.symm
     · exact absurd g (hx.1 y e)
  subst e
  rw[sort_eq a b (List.Perm.cons_inv h) hx.2 hy.2]
theorem sorted_keys {L:Nat->List Nat×List Int} {σ:List Nat} (h:QU7 L σ):((σ.map L).map keyT).Pairwise (fun x y=>¬lexC y x<0):=by
 rw[List.map_map,List.pairwise_map]
 refine h.imp ?_
 intro x y hxy
 rw[cmpT_key]at hxy
 exact hxy
theorem perm_range {l:List Nat} {c:Nat} (hn:l.Nodup) (h:∀ x,x∈l↔x<c):l.Perm (List.range c):=by
 refine List.perm_iff_count.2 fun a=>?_
 by_cases ha:a<c
 · rw[List.Nodup.count hn,if_pos ((h a).2 ha),List.Nodup.count List.nodup_range,if_pos (List.mem_range.2 ha)]
 · rw[List.count_eq_zero_of_not_mem (fun e=>ha ((h a).1 e)),List.count_eq_zero_of_not_mem (fun e=>ha (List.mem_range.1 e))]
theorem mem_hdTo (V:List Nat) (p x:Nat):x∈hdTo V p↔x<p/\V.getD x 0=x:=by
 induction p with
 |zero=>simp[hdTo]
 |succ p ih=>
  rw[hdTo]
  split
  · rename_i e
    rw[List.mem_append,ih,List.mem_singleton]
    constructor
    · rintro(h|h)
      · exact⟨by omega,h.2⟩
      · subst h;exact⟨by omega,e⟩
    · rintro⟨h1,h2⟩
      by_cases e2:x=p
      · exact Or.inr e2
      · exact Or.inl ⟨by omega,h2⟩
  · rename_i e
    rw[ih]
    constructor
    · exact fun h=>⟨by omega,h.2⟩
    · rintro⟨h1,h2⟩
      refine⟨?_,h2⟩
      by_cases e2:x=p
      · subst e2;exact absurd h2 e
      · omega
theorem hdTo_nodup (V:List Nat) (p:Nat):(hdTo V p).Nodup:=by
 induction p with
 |zero=>exact List.nodup_nil
 |succ p ih=>
  rw[hdTo]
  split
  · refine List.nodup_append.2 ⟨ih,by simp,fun a ha b hb e=>?_⟩
    rw[List.mem_singleton.1 hb]at e
    rw[e]at ha
    have:=((mem_hdTo V p p).1 ha).1
    omega
  · exact ih
theorem leT_congr (C:List Cr) (P Q:List Int) (p q:Nat):∀ n,(∀ k,k<n->(P.getD k 0=(p:Int)↔Q.getD k 0=(q:Int)))->leT C P p n=leT C Q q n:=by
 intro n
 induction n with
 |zero=>intro _;rfl
 |succ n ih=>
  intro h
  rw[leT,leT,ih (fun k hk=>h k (by omega))]
  have e:=h n (by omega)
  by_cases h1:P.getD n 0=(p:Int)
  · have h2:=e.1 h1
    simp only[h1,h2,true_and]
  · have h2:¬Q.getD n 0=(q:Int):=fun x=>h1 (e.2 x)
    rw[if_neg (fun x=>h1 x.1),if_neg (fun x=>h2 x.1)]
theorem leT_is (C:List Cr) (P:List Int) (p:Nat):∀ n,(leT C P p n=([],[])/\∀ k,k<n->P.getD k 0≠(p:Int))∨∃ k,k<n/\P.getD k 0=(p:Int)/\leT C P p n=te C k:=by
 intro n
 induction n with
 |zero=>exact Or.inl ⟨rfl,fun k hk=>absurd hk (Nat.not_lt_zero _)⟩
 |succ n ih=>
  rw[leT]
  by_cases h1:P.getD n 0=(p:Int)
  · by_cases h2:(leT C P p n).1=[]∨cmpT (te C n) (leT C P p n)<0
    · rw[if_pos ⟨h1,h2⟩];exact Or.inr ⟨n,by omega,h1,rfl⟩
    · rw[if_neg (fun x=>h2 x.2)]
      rcases ih with⟨a,b⟩|⟨k,a,b,c⟩
      · exact absurd (Or.inl (by rw[a])) h2
      · exact Or.inr ⟨k,by omega,b,c⟩
  · rw[if_neg (fun x=>h1 x.1)]
    rcases ih with⟨a,b⟩|⟨k,a,b,c⟩
    · refine Or.inl ⟨a,fun k hk=>?_⟩
      by_cases e:k=n
      · rw[e];exact h1
      · exact b k (by omega)
    · exact Or.inr ⟨k,by omega,b,c⟩
theorem ords_perm {A B:List (List Nat×List Int)} (h:A.Perm B):(ords A).Perm (ords B):=by
 unfold ords
 exact(h.map Prod.fst).flatten
theorem forms_one {C:List Cr} {loops:Int} (hm:mayD C loops=true) {P:List Int} {n:Nat} {σ V τ:List Nat} (hP:PcsAll C P n) (hσ:σ.Perm (List.range n)) (sσ:QU7 (fun p=>leT C P p C.length) σ) (hV:Least (arcE C) C.length V) (hτ:τ.Perm (List.range (hdTo V C.length).length)) (sτ:QU7 (fun i=>leT C (wI V) ((hdTo V C.length).getD i 0) C.length) τ):
    canGo C [] ((σ.map fun p=>(leT C P p C.length).1).flatten)=canGo C [] ((τ.map fun i=>(leT C (wI V) ((hdTo V C.length).getD i 0) C.length).1).flatten):=by
 obtain⟨Hs,hHs⟩:∃ Hs,hdTo V C.length=Hs:=⟨_,rfl⟩
 have hmem:∀ x,x∈Hs↔x<C.length/\V.getD x 0=x:=fun x=>by rw[<-hHs];exact mem_hdTo V _ x
 have hnd:Hs.Nodup:=by rw[<-hHs];exact hdTo_nodup V _
 rw[hHs]at hτ sτ ⊢
 -- the number of a head's piece
 have hcls:∀ h k,h∈Hs->k<C.length->(V.getD k 0=h↔P.getD k 0=P.getD h 0):=fun h k hh hk=>by
  obtain⟨h1,h2⟩:=(hmem h).1 hh
  rw[hP.same k h hk h1]
  have:=hV.same hk h1
  rw[h2]at this
  exact this
 obtain⟨ph,hph⟩:∃ ph:Nat->Nat,ph=fun h=>(P.getD h 0).toNat:=⟨_,rfl⟩
 have hphv:∀ h,h<C.length->P.getD h 0=(ph h:Int)/\ph h<n:=fun h hh=>by
  have:=hP.vals h hh
  rw[hph]
  simp only
  omega
 have hperm:(Hs.map ph).Perm (List.range n):=by
  refine perm_range ?_ fun p=>⟨fun hx=>?_,fun hx=>?_⟩
  · unfold List.Nodup
    rw[List.pairwise_map]
    refine List.Pairwise.imp_of_mem ?_ hnd
    intro h h' hh hh' hne e
    obtain⟨a1,a2⟩:=(hmem h).1 hh
    obtain⟨b1,b2⟩:=(hmem h').1 hh'
    have e2:=(hcls h' h hh' a1).2 (by rw[(hphv h a1).1,(hphv h' b1).1,e])
    exact hne (a2.symm.trans e2)
  · obtain⟨h,hh,rfl⟩:=List.mem_map.1 hx
    exact(hphv h ((hmem h).1 hh).1).2
  · obtain⟨v,hv,ev⟩:=hP.used p hx
    obtain⟨c1,c2⟩:=hV.2 v hv
    have hle:=c2 v (Con.refl _ _)
    have hlt:V.getD v 0<C.length:=by omega
    have e1:=(hV.same hv hlt).2 c1
    have e2:=(hP.same v _ hv hlt).2 c1
    refine List.mem_map.2 ⟨V.getD v 0,(hmem _).2 ⟨hlt,e1.symm⟩,?_⟩
    have e3:=(hphv _ hlt).1
    rw[<-e2,ev]at e3
    omega
 have hAB:(σ.map fun p=>leT C P p C.length).Perm (τ.map fun i=>leT C (wI V) (Hs.getD i 0) C.length):=by
  refine(hσ.map _).trans ((hperm.symm.map _).trans ?_)
  refine List.Perm.trans ?_ (hτ.symm.map _)
  have e1:(Hs.map ph).map (fun p=>leT C P p C.length)=Hs.map fun h=>leT C (wI V) h C.length:=by
   rw[List.map_map]
   refine List.map_congr_left fun h hh=>?_
   obtain⟨a1,a2⟩:=(hmem h).1 hh
   refine leT_congr C P (wI V) (ph h) h C.length fun k hk=>?_
   rw[wI_at V k (by rw[hV.1];exact hk),<-(hphv h a1).1]
   have:=hcls h k hh hk
   rw[<-this]
   exact⟨fun e=>by rw[e],fun e=>by omega⟩
  have e2:Hs=(List.range Hs.length).map fun i=>Hs.getD i 0:=by
   apply List.ext_getElem?
   intro j
   by_cases hj:j<Hs.length
   · simp[hj,List.getD]
   · rw[List.getElem?_eq_none (by omega),List.getElem?_eq_none (by simp;omega)]
  rw[e1]
  have e3:(Hs.map fun h=>leT C (wI V) h C.length)=(List.range Hs.length).map fun i=>leT C (wI V) (Hs.getD i 0) C.length:=by
   conv=>lhs;rw[e2]
   rw[List.map_map]
   rfl
  rw[e3]
 have hkeys:=sort_eq _ _ (hAB.map keyT) (sorted_keys sσ) (sorted_keys sτ)
 have hte:∀ p,p<n->∃ k,k<C.length/\P.getD k 0=(p:Int)/\leT C P p C.length=te C k:=fun p hp=>by
  rcases leT_is C P p C.length with⟨_,b⟩|h
  · obtain⟨v,hv,ev⟩:=hP.used p hp
    exact absurd ev (b v hv)
  · exact h
 have hlt:∀ p,p∈σ->p<n:=fun p hp=>List.mem_range.1 (hσ.subset hp)
 have hA:∀ p,p∈(σ.map fun p=>leT C P p C.length)->IsTe C p:=fun p hp=>by
  obtain⟨q,hq,rfl⟩:=List.mem_map.1 hp
  obtain⟨k,k1,-,k3⟩:=hte q (hlt q hq)
  exact⟨k,k1,k3⟩
 have hB:∀ p,p∈(τ.map fun i=>leT C (wI V) (Hs.getD i 0) C.length)->IsTe C p:=fun p hp=>hA p (hAB.symm.subset hp)
 have hin:∀ p,p<n->∀ x,x∈(leT C P p C.length).1->P.getD x 0=(p:Int):=fun p hp x hx=>by
  obtain⟨k,k1,k2,k3⟩:=hte p hp
  rw[k3]at hx
  rw[<-k2]
  exact((hP.same k x k1 ((te_ok hm k1).lt x hx)).2 (te_con hm k1 x hx)).symm
 have hone:∀ p,p<n->(leT C P p C.length).1.Nodup:=fun p hp=>by
  obtain⟨k,k1,-,k3⟩:=hte p hp
  rw[k3]
  exact(te_ok hm k1).nd
 have hndl:∀ l:List Nat,l.Nodup->(∀ p,p∈l->p<n)->(ords (l.map fun p=>leT C P p C.length)).Nodup:=by
  intro l
  induction l with
  |nil=>intro _ _;exact List.nodup_nil
  |cons p l ih=>
   intro hl hp
   have hl':=List.nodup_cons.1 hl
   have e:ords ((p::l).map fun p=>leT C P p C.length)=(leT C P p C.length).1++ords (l.map fun p=>leT C P p C.length):=by simp[ords]
   rw[e]
   refine List.nodup_append.2 ⟨hone p (hp p (List.mem_cons_self)),ih hl'.2 (fun q hq=>hp q (List.mem_cons_of_mem _ hq)),fun a ha b hb e2=>?_⟩
   subst e2
   unfold ords at hb
   obtain⟨o,ho,hao⟩:=List.mem_flatten.1 hb
   obtain⟨t,ht,rfl⟩:=List.mem_map.1 ho
   obtain⟨q,hq,rfl⟩:=List.mem_map.1 ht
   have h1:=hin p (hp p (List.mem_cons_self)) a ha
   have h2:=hin q (hp q (List.mem_cons_of_mem _ hq)) a hao
   have:p=q:=by omega
   subst this
   exact hl'.1 hq
 have ndA:=hndl σ (hσ.symm.nodup List.nodup_range) hlt
 have ndB:=(ords_perm hAB).nodup ndA
 have h:=can_same hm hA hB hkeys ndA ndB
 have o1:ords (σ.map fun p=>leT C P p C.length)=(σ.map fun p=>(leT C P p C.length).1).flatten:=by unfold ords;rw[List.map_map];rfl
 have o2:ords (τ.map fun i=>leT C (wI V) (Hs.getD i 0) C.length)=(τ.map fun i=>(leT C (wI V) (Hs.getD i 0) C.length).1).flatten:=by unfold ords;rw[List.map_map];rfl
 rw[o1,o2]at h
 exact h.symm
end Go.Proofs.Ytagaajlbkfkaiaa
/- Which piece ref.CanonForm takes next; which numbers its arcs have. -/
namespace Go.Proofs.Ytagaajlbkfkaiaa
open Go.RowKit
theorem cmpT_ntrans {p q r:List Nat×List Int} (h1:¬cmpT p q<0) (h2:¬cmpT q r<0):¬cmpT p r<0:=by
 rw[cmpT_key] at*
 exact lexC_ntrans _ _ _ h1 h2
theorem cmpT_asymm {p q:List Nat×List Int} (h1:cmpT p q<0):¬cmpT q p<0:=by
 rw[cmpT_key] at*
 intro h2
 have:=lexC_trans _ _ _ h1 h2
 rw[lexC_self]at this
 exact absurd this (by decide)
structure PickS (L:Nat->List Nat×List Int) (m:Nat) (τ:List Nat):Prop where
 nd:τ.Nodup
 lt:∀ x,x∈τ->x<m
 srt:QU7 L τ
 rest:∀ x,x∈τ->∀ y,y<m->y ∉ τ->¬cmpT (L y) (L x)<0
theorem PickS.nil (L:Nat->List Nat×List Int) (m:Nat):PickS L m []:=⟨List.nodup_nil,(fun x h=>by cases h),List.Pairwise.nil,(fun x h=>by cases h)⟩
theorem PickS.next {L:Nat->List Nat×List Int} {m k:Nat} {τ:List Nat} (h:PickS L m τ) (hk:k<m) (hn:k ∉ τ) (hl:∀ y,y<m->y ∉ τ->¬cmpT (L y) (L k)<0):PickS L m (τ++[k]):=by
 refine⟨List.nodup_append.2 ⟨h.nd,by simp,fun a ha b hb e=>?_⟩,fun x hx=>?_,?_,fun x hx y hy hny=>?_⟩
 · rw[List.mem_singleton.1 hb]at e
   rw[e]at ha
   exact hn ha
 · rcases List.mem_append.1 hx with hx|hx
   · exact h.lt x hx
   · rw[List.mem_singleton.1 hx];exact hk
 · unfold QU7
   refine List.pairwise_append.2 ⟨h.srt,List.pairwise_singleton _ _,fun x hx y hy=>?_⟩
   rw[List.mem_singleton.1 hy]
   exact h.rest x hx k hk hn
 · have hny1:y ∉ τ:=fun e=>hny (List.mem_append_left _ e)
   rcases List.mem_append.1 hx with hx|hx
   · exact h.rest x hx y hy hny1
   · rw[List.mem_singleton.1 hx];exact hl y hy hny1
theorem PickS.few {L:Nat->List Nat×List Int} {m:Nat} {τ:List Nat} (h:PickS L m τ):τ.length<=m:=by
 have:=List.Nodup.length_le_of_subset h.nd (l₂:=List.range m) (fun x hx=>List.mem_range.2 (h.lt x hx))
 simpa using this
theorem PickS.free {L:Nat->List Nat×List Int} {m:Nat} {τ:List Nat} (_h:PickS L m τ) (hl:τ.length<m):∃ y,y<m/\y ∉ τ:=by
 refine Classical.byContradiction fun hno=>?_
 have hsub:List.range m ⊆ τ:=fun x hx=>Classical.byContradiction fun hn=>hno ⟨x,List.mem_range.1 hx,hn⟩
 have:=List.Nodup.length_le_of_subset List.nodup_range hsub
 simp at this
 omega
def arF (F:List Nat) (x:Nat):Int:=if x∈F then(F.idxOf x:Int)+1 else 0
theorem arF_new (n:Nat) (F:List Nat) (x:Nat) (hx:x ∉ F):(mapI n (arF F)).set x ((F.length:Int)+1)=mapI n (arF (F++[x])):=by
 refine mapI_set _ _ _ _ _ fun y _=>?_
 unfold arF
 by_cases e:y=x
 · subst e
   rw[if_pos rfl,if_pos (by simp),List.idxOf_append,if_neg hx]
   simp
 · rw[if_neg e]
   by_cases h:y∈F
   · rw[if_pos h,if_pos (List.mem_append_left _ h),List.idxOf_append,if_pos h]
   · rw[if_neg h,if_neg (fun h2=>by rcases List.mem_append.1 h2 with h2|h2;exact h h2;exact e (by simpa using h2))]
def mapB (m:Nat) (f:Nat->Bool):List Bool:=(List.range m).map f
theorem mapB_len (m:Nat) (f:Nat->Bool):(mapB m f).length=m:=by simp[mapB]
theorem mapB_set (m:Nat) (τ:List Nat) (k:Nat):(mapB m fun i=>decide (i∈τ)).set k true=mapB m fun i=>decide (i∈τ++[k]):=by
 apply List.ext_getElem?
 intro j
 rw[List.getElem?_set]
 by_cases hj:j<m
 · simp only[mapB,List.getElem?_map,List.getElem?_range hj,Option.map_some,List.length_map,List.length_range]
   by_cases e:k=j
   · subst e;simp[hj]
   · rw[if_neg e]
     simp only[List.mem_append,List.mem_singleton]
     congr 1
     refine decide_eq_decide.2 ⟨Or.inl,fun h=>h.elim id (fun h=>absurd h.symm e)⟩
 · rw[List.getElem?_eq_none (by rw[mapB_len];omega),List.getElem?_eq_none (by rw[mapB_len];omega)]
   split
   · rw[if_neg (by rw[mapB_len];omega)]
   · rfl
structure StB (W3:World) (n:Nat) (loops:Int) (gU m:Nat) (F τ:List Nat) (acc:List Cr) (v:Value) (W:World):Prop where
 bel:Below W3.heap.size W3 W
 out:OutAt W (W3.heap.size+1) W3.heap.size v loops acc
 arc:W.ownsRow (W3.heap.size+1) 3 1 (.slice (some ⟨W3.heap.size+1,0,none⟩) (2*n+1) (2*n+1)) (2*n+1) (intsV (mapI (2*n+1) (arF F)))
 use:W.ownsRow (W3.heap.size+1) 4 1 (.slice (some ⟨gU,0,none⟩) m m) m (bools (mapB m fun i=>decide (i∈τ)))
section
variable {W3:World} {n:Nat} {loops:Int} {gU m:Nat} {F τ:List Nat} {acc:List Cr} {v:Value} {W:World}
theorem StB.any {W':World} (h:StB W3 n loops gU m F τ acc v W) (hg:W.grownBy W' none):StB W3 n loops gU m F τ acc v W':=
 ⟨h.bel.grown hg h.bel.size (fun k hk=>by cases hk),⟨(hg.block _ (Array.getElem?_eq_some_iff.1 h.out.box).1 (by simp)).trans h.out.box,QX0 h.out.row hg⟩,QX0 h.arc hg,QX0 h.use hg⟩
theorem StB.sz (h:StB W3 n loops gU m F τ acc v W):W3.heap.size+1<W.heap.size/\gU<W.heap.size/\W3.heap.size+1<=gU/\gU≠W3.heap.size+1:=by
 refine⟨(h.arc.lt _ rfl).2,(h.use.lt _ rfl).2,(h.use.lt _ rfl).1,fun e=>?_⟩
 rcases own_ne h.use h.arc (by decide) with h1|h1
 · cases h1
 · exact h1 (by rw[e];rfl)
theorem StB.take {k:Nat} (h:StB W3 n loops gU m F τ acc v W):StB W3 n loops gU m F (τ++[k]) acc v (W.setCell ⟨gU,k,none⟩ (.bool true)):=by
 obtain⟨s1,s2,s3,s4⟩:=h.sz
 have hS:=QQ7 W gU k (.bool true)
 have hst:=(h.use.stored k (.bool true)).1
 rw[bools_set,mapB_set]at hst
 refine⟨h.bel.grown hS h.bel.size (fun q hq=>by have:=Option.some.inj hq;omega),⟨(hS.block _ (by omega) (fun e=>by have:=Option.some.inj e;omega)).trans h.out.box,h.out.row.kept hS ?_⟩,h.arc.kept hS (Or.inr (fun e=>s4 (Option.some.inj e).symm)),hst⟩
 exact own_ne h.out.row h.use (by decide)
theorem StB.num {x:Nat} (h:StB W3 n loops gU m F τ acc v W) (hx:x ∉ F):StB W3 n loops gU m (F++[x]) τ acc v (W.setCell ⟨W3.heap.size+1,x,none⟩ (.int .i64 ((F.length:Int)+1))):=by
 obtain⟨s1,s2,s3,s4⟩:=h.sz
 have hS:=QQ7 W (W3.heap.size+1) x (.int .i64 ((F.length:Int)+1))
 have hst:=(h.arc.stored x (.int .i64 ((F.length:Int)+1))).1
 rw[QU5,arF_new _ _ _ hx]at hst
 refine⟨h.bel.grown hS h.bel.size (fun q hq=>by have:=Option.some.inj hq;omega),⟨(hS.block _ (by omega) (fun e=>by have:=Option.some.inj e;omega)).trans h.out.box,h.out.row.kept hS (own_ne h.out.row h.arc (by decide))⟩,hst,h.use.kept hS (own_ne h.use h.arc (by decide))⟩
theorem StB.row {k:Nat} {u:Value} {xs:List Value} {W':World} (h:StB W3 n loops gU m F τ acc v W) (ho:W.ownsRow (W3.heap.size+2) 3 1 u k xs) (hg:W.grownBy W' u.ownBlock):StB W3 n loops gU m F τ acc v W':=by
 obtain⟨s1,s2,s3,s4⟩:=h.sz
 have hlow:∀ q,q<W3.heap.size+2->some q≠u.ownBlock:=fun q hq e=>by have:=(ho.lt q e.symm).1;omega
 exact⟨h.bel.grown hg h.bel.size (fun q hq=>by have:=(ho.lt q hq).1;omega),⟨(hg.block _ (by omega) (hlow _ (by omega))).trans h.out.box,h.out.row.kept hg (own_ne h.out.row ho (by decide))⟩,h.arc.kept hg (Or.inr (hlow (W3.heap.size+1) (by omega))),h.use.kept hg (own_ne h.use ho (by decide))⟩
theorem StB.app {w8:World} {v8:Value} {x:Cr} {o:Obj} (h:StB W3 n loops gU m F τ acc v W) (hown8:w8.ownsRow (W3.heap.size+1) 71 5 v8 (acc.length+1) (QQ4 acc++QQ4 [x])) (hg8:(W.alloc o).grownBy w8 v.ownBlock):
    StB W3 n loops gU m F τ (acc++[x]) v8 (w8.setCell ⟨W3.heap.size,0,none⟩ v8):=by
 obtain⟨s1,s2,s3,s4⟩:=h.sz
 have hS:=QQ7 w8 W3.heap.size 0 v8
 have hnone:W.grownBy (W.alloc o) none:=World.grownBy_alloc _ _ _
 have hrow:∀ {e s k:Nat} {u:Value} {xs:List Value},W.ownsRow (W3.heap.size+1) e s u k xs->e≠71->(w8.setCell ⟨W3.heap.size,0,none⟩ v8).ownsRow (W3.heap.size+1) e s u k xs:=fun ho he=>by
  have h1:=QX0 ho hnone
  have h2:=h1.kept hg8 (own_ne h1 (QX0 h.out.row hnone) he)
  exact h2.kept hS (Or.inr (fun e=>by have:=(h2.lt _ e).1;omega))
 exact⟨h.out.below h.bel (by omega) h.bel.size (Nat.le_refl _) hg8,h.out.app (by omega) rfl hown8 hg8,hrow h.arc (by decide),hrow h.use (by decide)⟩
end
end Go.Proofs.Ytagaajlbkfkaiaa
