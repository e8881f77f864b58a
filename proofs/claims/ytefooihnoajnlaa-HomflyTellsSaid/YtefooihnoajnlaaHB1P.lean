/- Several texts of the proof, one behind the other. -/
import Derived.Test.YtefooihnoajnlaaHB0
import Derived.Test.YtefooihnoajnlaaTkh
import Derived.Maps.RangeWalk
import Derived.BigRegion
import Derived.Deep.Cut
import Derived.Test.YtefooihnoajnlaaBaseP
/- The walk of (terms.Pairs).Add. -/
namespace Go.Proofs.Ytefooihnoajnlaa.Poly
open Go.RowKit Go.Maps
set_option maxHeartbeats 4000000
set_option maxRecDepth 100000
def partP (left:Lit->Bool) (g:Int->Int) (e:Int):Int:=if left (klP e) then 0 else g e
theorem same_kl {x y:Int} (hx:Rg x) (hy:Rg y):(klP y).sameKey (klP x)=decide (y=x):=by
 by_cases h:y=x
 · subst h
   simp[klP,Lit.sameKey]
 · rw[decide_eq_false h]
   cases hs:(klP y).sameKey (klP x) with
   |false=>rfl
   |true=>
    exfalso
    apply h
    refine klP_inj hy hx ?_
    simp only[klP,Lit.sameKey]at hs ⊢
    have:=eq_of_beq hs
    rw[this]
theorem left_struck (left:Lit->Bool) {x y:Int} (hx:Rg x) (hy:Rg y):(left (klP y)&&!(klP y).sameKey (klP x))=if y=x then false else left (klP y):=by
 rw[same_kl hx hy]
 by_cases e:y=x
 · rw[if_pos e,decide_eq_true e,Bool.not_true,Bool.and_false]
 · rw[if_neg e,decide_eq_false e,Bool.not_false,Bool.and_true]
theorem partP_step {left:Lit->Bool} {g:Int->Int} {x:Int} (hx:Rg x) (y:Int) (hy:Rg y):partP (fun z=>left z&&!z.sameKey (klP x)) g y=if x=y then g x else partP left g y:=by
 show(if(left (klP y)&&!(klP y).sameKey (klP x))=true then 0 else g y)=_
 rw[left_struck left hx hy]
 by_cases h:y=x
 · rw[if_pos h,if_pos h.symm,if_neg (by decide),h]
 · rw[if_neg h,if_neg (show ¬ x=y from fun q=>h q.symm)]
   rfl
theorem pairBox {W:World} {a b c:Int} {p:Nat} (h:W.heap[p]?=some (.cells #[.int .i64 a,.int .i64 b,.int .i64 c] 51 (0,0))):W.cell? ⟨p,0,none⟩=some (.int .i64 a)/\W.cell? ⟨p,1,none⟩=some (.int .i64 b)/\W.cell? ⟨p,2,none⟩=some (.int .i64 c):=⟨block_cell h rfl,block_cell h rfl,block_cell h rfl⟩
theorem wrap_in (x:Int) (h : -4611686018427387904<=x/\x<=4611686018427387904):IntKind.i64.wrap x=x:=IntWalk.i64_in _ (by omega)
theorem key_val {D:DataW Unit} {b n B K:Nat} {g:Int->Int} {W:World} (h:PrD W b n B K g D) (hK:K<=300) {v:Value} {kl:Lit} (hv:keyOf Try.prog 74 v=some kl) {c:Int} (hat:∀ zd,D.atKey kl zd=.lit (.int .i64 c)):∃ e,Inb K e/\v=prV e/\kl=klP e/\c=g e:=by
 obtain⟨e,he,rfl⟩:=h.keys kl (has_true_of_atKey hat)
 refine⟨e,he,lawP.inj hv (keyP (he.rg hK)),rfl,?_⟩
 rw[<-h.val e (he.rg hK)]
 exact(co_at hat).symm
theorem grown_to {a b c:World} {r s:Option Nat} (h:a.grownBy b r) (k:b.grownBy c s) (hs:∀ q,s=some q->a.heap.size<=q∨r=some q):a.grownBy c r:=
 ⟨k.os.trans h.os, k.tape.trans h.tape, k.output.trans h.output, Nat.le_trans h.size k.size, fun i hi hne => (k.block i (Nat.lt_of_lt_of_le hi h.size) (fun e => by
  rcases hs i e.symm with q|q
  · omega
  · exact hne q.symm)).trans (h.block i hi hne)⟩
theorem add_pairs (b n B Kp b' n' B' Kq : Nat) (f g : Int → Int) (D Dq : DataW Unit) (X Z c : Int) (w : World) (hp : PrD w b n B Kp f D) (hq : PrD w b' n' B' Kq g Dq) (hbb : b ≠ b') (hc : c = 1 ∨ c = -1 ∨ c = 0) (hX : X.natAbs + Kq ≤ Kp) (hZ : Z.natAbs + Kq ≤ Kp) (hKp : Kp ≤ 100) (hn : n + n' ≤ 2000000000000000000) (hB : B + B' ≤ 2000000000000000000) :
    Calls Try.prog 43 #[.map (some b),.map (some b'),.agg #[.int .i64 X,.int .i64 Z,.int .i64 c]] w fun e w'=>e=.returned (.tuple #[])/\∃ D',PrD w' b (n+n') (B+B') Kp (fun e=>f e+c*g (e-(1000*X+Z))) D'/\w.grownBy w' (some b):=by
 have HP:=hidH hp
 have HQ:=hidH hq
 have hlb:=hp.lt
 have hlq:=hq.lt
 have HC:=hidH hc
 clear hp hq hc
 obtain⟨V,hV⟩:∃ V,w.alloc (.cells #[.int .i64 X,.int .i64 Z,.int .i64 c] 51)=V:=⟨_,rfl⟩
 have HB0:Hid (Below w.heap.size w V):=(by rw[<-hV];exact(Below.refl _ _).alloc (Nat.le_refl _) _:Below w.heap.size w V)
 have HT0:Hid (V.heap[w.heap.size]?=some (.cells #[.int .i64 X,.int .i64 Z,.int .i64 c] 51 (0,0))):=(by rw[<-hV];exact alloc_at rfl:V.heap[w.heap.size]?=_)
 have hsV:V.heap.size=w.heap.size+1:=by rw[<-hV];simp
 have HQV:=hidH (HQ.out.kept (grown_below HB0.out none) (by simp))
 have HPV:=hidH (HP.out.kept (grown_below HB0.out none) (by simp))
 have HV:=hidH hV
 clear hV
 go_enter Try.func43,Try.ntmps43
 go_upto_region 1 with(fail)
 rw[HV.out]
 go_wp2_with (first
  |(at_range;refine wpList_range_own _ rfl _ 45 rfl 74 3 lawP Try.underlying45 _ b' n' _ rfl HQV.out.own ?_;intro w0 hrg0 hg0 hs0))
 go_frame
 rw[hsV]at hrg0 hs0 ⊢
 go_loopw [6, 7] (fun _ _ wr => ∃ (left : Lit → Bool) (cnt k : Nat) (D1 : DataW Unit), wr.ranges Try.prog 74 (plainElem Try.prog 3) b' (w.heap.size + 1) n' Dq left cnt ∧ k + cnt ≤ n' ∧
     PrD wr b (n+k) (B+B') Kp (fun e=>f e+c*partP left g (e-(1000*X+Z))) D1/\w.grownBy wr (some b)/\wr.heap[w.heap.size]?=some (.cells #[.int .i64 X,.int .i64 Z,.int .i64 c] 51 (0,0)))
  (fun _ _ wr=>wr.rangeLeft b' (w.heap.size+1))
 case atStart=>
  have hsq:=HQV.out.own.size_le
  refine⟨_,_,0,D,hrg0,by omega,?_,grown_to (grown_below HB0.out (some b)) hg0 (by simp),?_⟩
  · refine(((HPV.out.kept hg0 (by simp)).mono (by omega) (by omega) (Nat.le_refl _)).congr fun e=>?_)
    unfold partP
    split
    · omega
    · rename_i hh
      by_cases hr:Rg (e-(1000*X+Z))
      · rw[<-HQ.out.val _ hr,co_none (by simpa using hh)]
        omega
      · rw[HQ.out.sup _ (fun q=>hr (q.rg (by omega)))]
        omega
  · exact(hg0.block _ (by omega) (by simp)).trans HT0.out
 case round=>
  clear hrg0 hg0 hs0
  rename World=>W1
  obtain⟨left,cnt,k,D1,hrg,hcs,hP1,hg1,hT1⟩:=hrel
  go_wp2_with (first
   |(at_next;refine wpList_next_ranges _ rfl _ rfl 74 lawP (plainElem Try.prog 3) (fun v:Value=>v) (fun c:Int=>Value.int .i64 c) (fun key _ _=>⟨key,rfl⟩) (fun v y hv=>by obtain⟨c,e,-⟩:=plainElem_int_inv Try.underlying3 hv;exact⟨c,e⟩) b' (w.heap.size+1) n' _ _ _ rfl hrg ?_ ?_)
   |go_in)
  · intro hc0 hl0
    go_wp2
    refine bodyPost_end (results_none rfl _ _ _) rfl ⟨rfl,D1,?_,hg1⟩
    refine(hP1.mono (by omega) (by omega) (Nat.le_refl _)).congr fun e=>?_
    unfold partP
    rw[hl0]
    rfl
  · intro x cq kl y yp W2 cnt1 hkey hlk hRy hat hrg2 hlt hg2 hs2 hen
    obtain⟨c',ec,hyc,hwc⟩:=plainElem_int_inv Try.underlying3 hRy
    have hc':cq=c':=by injection ec
    rw[show y=.lit (.int .i64 c') from congrArg Prod.fst hyc,<-hc']at hat
    obtain⟨e0,he0,rfl,rfl,hcg⟩:=key_val HQ.out (by omega) hkey hat
    unfold prV at hen
    have HE0:=hidH he0
    have HCG:=hidH hcg
    have HLK:=hidH hlk
    obtain⟨pe1,pe2,pe3⟩:=he0.plus (X:=X) (Z:=Z) (L:=Kp - Kq) ⟨by omega,by omega⟩ ⟨by omega,by omega⟩ (by omega)
    have HPE:=hidH pe1
    have HP2:=hidH pe2
    have HP3:=hidH pe3
    obtain⟨e1,he1⟩:∃ e1,e0+(1000*X+Z)=e1:=⟨_,rfl⟩
    have HE1:=hidH he1
    rw[he1]at HPE HP2 HP3
    obtain⟨x1,hx1⟩:∃ x1,dx e0=x1:=⟨_,rfl⟩
    obtain⟨z1,hz1⟩:∃ z1,dz e0=z1:=⟨_,rfl⟩
    rw[hx1,hz1]at hen
    rw[hx1]at HP2
    rw[hz1]at HP3
    have hbx : -100<=x1/\x1<=100 /\ -100<=z1/\z1<=100:=by
     have:=HE0.out
     unfold Inb at this
     omega
    have hbc : -2000000000000000000<=cq/\cq<=2000000000000000000:=by
     have:=HQ.out.bd e0
     rw[<-HCG.out]at this
     omega
    obtain⟨m1,hm1⟩:∃ m1,cq*c=m1:=⟨_,rfl⟩
    have hbm : -2000000000000000000<=m1/\m1<=2000000000000000000:=by
     rcases HC.out with q|q|q<;>rw[q]at hm1<;>omega
    have HM1:=hidH hm1
    have hP2:=hP1.kept hg2 (by simp;omega)
    have hT2:W2.heap[w.heap.size]?=some (.cells #[.int .i64 X,.int .i64 Z,.int .i64 c] 51 (0,0)):=(hg2.block _ (Array.getElem?_eq_some_iff.1 hT1).1 (by simp)).trans hT1
    have hG2:w.grownBy W2 (some b):=grown_to hg1 hg2 (by simp)
    have hbF : -2000000000000000000<=f e1+m1/\f e1+m1<=2000000000000000000 /\ -2000000000000000000<=f e1/\f e1<=2000000000000000000:=by
     have h1:=HP.out.bd e1
     have h2:=HQ.out.bd e0
     rw[<-HCG.out]at h2
     rcases HC.out with q|q|q<;>rw[q]at hm1<;>omega
    have HFv : Hid (f e1 + c * partP left g (e1 - (1000 * X + Z)) = f e1) := (by
     show f e1+c*partP left g (e1-(1000*X+Z))=f e1
     rw[show e1-(1000*X+Z)=e0 by omega]
     unfold partP
     rw[if_pos HLK.out]
     omega)
    have HDR:Hid (PrD W2 b (n+k) (B+B') Kp (fun e=>f e+c*partP left g (e-(1000*X+Z))) D1):=hP2
    have HG2:=hidH hG2
    have HT2:=hidH hT2
    have HRG:=hidH hrg2
    have hls:w.heap.size+1<W2.heap.size:=hrg2.lt
    clear hP1 hP2 hT1 hT2 hG2 hg1 hkey hat hRy he0 hcg hx1 hz1 hm1 hlk pe1 pe2 pe3 he1 hyc ec hwc hc' hg2 hs2 hrg2
    obtain⟨V2,hV2⟩:∃ V2,W2.alloc (.cells #[.int .i64 x1,.int .i64 z1] 74)=V2:=⟨_,rfl⟩
    have HV2:=hidH hV2
    have hgV:W2.grownBy V2 none:=by rw[<-hV2];exact World.grownBy_alloc _ _ none
    have HGV:=hidH hgV
    have HBV:Hid (V2.heap[W2.heap.size]?=some (.cells #[.int .i64 x1,.int .i64 z1] 74 (0,0))):=(by rw[<-hV2];exact alloc_at rfl:V2.heap[W2.heap.size]?=_)
    clear hV2 hgV
    go_upto_region 4 with(fail)
    rw[HV2.out]
    have HS:Hid (∀ W,V2.grownBy W (some b)->(fun X':World=>X'.cell? ⟨W2.heap.size,0,none⟩=some (.int .i64 x1)/\X'.cell? ⟨W2.heap.size,1,none⟩=some (.int .i64 z1)/\X'.cell? ⟨w.heap.size,0,none⟩=some (.int .i64 X)/\X'.cell? ⟨w.heap.size,1,none⟩=some (.int .i64 Z)/\X'.cell? ⟨w.heap.size,2,none⟩=some (.int .i64 c)) W):=fun W hW=>by
     have hb2:b≠W2.heap.size:=by have:=HDR.out.lt;omega
     have k0:=(hW.block _ (Array.getElem?_eq_some_iff.1 HBV.out).1 (fun q=>hb2 (Option.some.inj q).symm)).trans HBV.out
     have hT3:V2.heap[w.heap.size]?=some (.cells #[.int .i64 X,.int .i64 Z,.int .i64 c] 51 (0,0)):=(HGV.out.block _ (by omega) (by simp)).trans HT2.out
     have k1:=(hW.block _ (Array.getElem?_eq_some_iff.1 hT3).1 (fun q=>by have:=Option.some.inj q;omega)).trans hT3
     exact⟨block_cell k0 rfl,block_cell k0 rfl,block_cell k1 rfl,block_cell k1 rfl,block_cell k1 rfl⟩
    have HPD:Hid (PrD V2.drew b (n+k) (B+B') Kp (fun e=>f e+c*partP left g (e-(1000*X+Z))) D1):=(HDR.out.kept HGV.out (by simp)).kept (grown_below ((Below.refl _ _).drew) none) (by simp)
    have HGD:Hid (V2.grownBy V2.drew (some b)):=grown_below ((Below.refl _ _).drew) _
    have y1:IntKind.i64.wrap (x1+X)=x1+X:=wrap_in _ (by omega)
    have y2:IntKind.i64.wrap (z1+Z)=z1+Z:=wrap_in _ (by omega)
    have y3:IntKind.i64.wrap (cq*c)=m1:=by rw[HM1.out];exact wrap_in _ (by omega)
    have y4:IntKind.i64.wrap (f e1+m1)=f e1+m1:=wrap_in _ (by omega)
    have hpv:prV e1=.agg #[.int .i64 (x1+X),.int .i64 (z1+Z)]:=by unfold prV;rw[HP2.out,HP3.out]
    have hIn:Inb Kp e1:=HPE.out.mono (by omega)
    obtain⟨v0,st,wE,hrE,hgE,hlE,hstE⟩:=HPD.out.entry hIn (by omega) (by omega) (by omega)
    obtain⟨wF,hrF,hPF,hgF⟩:=hstE (f e1+m1) (by have h1:=HP.out.bd e1;have h2:=HQ.out.bd e0;rw[<-HCG.out]at h2;have h3:=HM1.out;rcases HC.out with q|q|q<;>rw[q]at h3<;>omega)
    have hlk:=HPD.out.look (hIn.rg (by omega))
    rw[HFv.out,hpv]at hlk hlE
    rw[hpv]at hrE
    have HLK1:=hidH hlk
    have HLK2:=hidH hlE
    have HRE:=hidH hrE
    have HRF:=hidH hrF
    have HPF:=hidH hPF
    have HGE:=hidH (grown_trans HGD.out hgE)
    have HGF:=hidH (grown_trans HGD.out hgF)
    clear hlk hlE hrE hrF hPF hgE hgF hstE hpv hIn
    have HREL : Hid (∀ W, V2.grownBy W (some b) → PrD W b (n + k + 1) (B + B') Kp (fun d => if d = e1 then f e1 + m1 else (fun e => f e + c * partP left g (e - (1000 * X + Z))) d) (D1.put (klP e1) (.lit (.int .i64 (f e1 + m1)))) → ∃ (left : Lit → Bool) (cnt k : Nat) (D1 : DataW Unit), W.ranges Try.prog 74 (plainElem Try.prog 3) b' (w.heap.size + 1) n' Dq left cnt ∧ k + cnt ≤ n' ∧
    PrD W b (n+k) (B+B') Kp (fun e=>f e+c*partP left g (e-(1000*X+Z))) D1/\w.grownBy W (some b)/\W.heap[w.heap.size]?=some (.cells #[.int .i64 X,.int .i64 Z,.int .i64 c] 51 (0,0))):=fun W hW hP=>by
     have hb2:=HDR.out.lt
     have hT3:V2.heap[w.heap.size]?=some (.cells #[.int .i64 X,.int .i64 Z,.int .i64 c] 51 (0,0)):=(HGV.out.block _ (by omega) (by simp)).trans HT2.out
     refine⟨_,cnt1,k+1,_,(HRG.out.kept HGV.out (by simp) (by simp)).kept hW (fun q=>by have:=Option.some.inj q;omega) (fun q=>by have:=Option.some.inj q;omega),by omega,(hP.mono (by omega) (by omega) (Nat.le_refl _)).congr fun e=>?_,grown_to HG2.out (grown_to (HGV.out.but (some b)) hW (fun q hq=>Or.inr hq)) (fun q hq=>Or.inr hq),(hW.block _ (Array.getElem?_eq_some_iff.1 hT3).1 (fun q=>by have:=Option.some.inj q;omega)).trans hT3⟩
     show(if e=e1 then f e1+m1 else f e+c*partP left g (e-(1000*X+Z)))=f e+c*partP (fun z=>left z&&!z.sameKey (klP e0)) g (e-(1000*X+Z))
     have hr0:Rg e0:=HE0.out.rg (by omega)
     have h2:=HE1.out
     by_cases he:e=e1
     · rw[if_pos he,he,show e1-(1000*X+Z)=e0 by omega,partP_step hr0 e0 hr0,if_pos rfl,<-HCG.out,<-HM1.out,Int.mul_comm]
     · rw[if_neg he]
       by_cases hr:Rg (e-(1000*X+Z))
       · rw[partP_step hr0 _ hr,if_neg (by omega)]
       · have h0:g (e-(1000*X+Z))=0:=HQ.out.sup _ (fun q=>hr (q.rg (by omega)))
         have hz:∀ lf,partP lf g (e-(1000*X+Z))=0:=fun lf=>by unfold partP;rw[h0];split<;>rfl
         rw[hz,hz]
    have HMEA:Hid (∀ W,V2.grownBy W (some b)->W.rangeLeft b' (w.heap.size+1)<W1.rangeLeft b' (w.heap.size+1)):=fun W hW=>by
     have hb2:=HDR.out.lt
     rw[((HRG.out.kept HGV.out (by simp) (by simp)).kept hW (fun q=>by have:=Option.some.inj q;omega) (fun q=>by have:=Option.some.inj q;omega)).left_eq,hrg.left_eq]
     exact hlt
    clear hrg
    refine rhd HS HGD.out (fun hHeld=>?_)
    refine tq 15 0 (h:=?_)
    refine tq 16 1 (h:=?_)
    refine tq 17 2 (h:=?_)
    refine tq 18 3 (h:=?_)
    refine tq 19 4 (h:=?_)
    refine tq 20 5 (h:=?_)
    refine tq 21 6 (h:=?_)
    refine tq 22 7 (h:=?_)
    refine tq 23 8 (h:=?_)
    refine tq 24 9 (h:=?_)
    refine tq 25 10 (h:=?_)
    refine tq 26 11 (h:=?_)
    refine tq 28 13 (h:=?_)
    refine tq 29 14 (h:=?_)
    refine tq 30 15 (h:=?_)
    refine tq 31 16 (h:=?_)
    simp only[List.setIfInBounds_toArray,List.set_cons_succ,List.set_cons_zero]
    clear y1 y2 y3
    refine rd2 12 18 ?_ ?_
    · intro K0 hK0
      have hlk:=HLK1.out
      go_simp
      refine hK0.out _ _ (HS.out _ HGD.out) (fun hHeld=>?_)
      clear hK0 K0 hlk
      try simp only[Act.put]
      try simp only[List.getElem_toArray]
      try simp only[List.getElem_cons_succ]
      try simp only[List.getElem_cons_zero]
      try        refine tq 32 17 (h:=?_)
      simp only[List.setIfInBounds_toArray,List.set_cons_succ,List.set_cons_zero]
      refine rd1 18 ?_
      intro K0 hK0
      have hre:=HRE.out
      go_simp
      refine hK0.out _ _ (HS.out _ HGE.out) (fun hHeld=>?_)
      clear hK0 K0 hre
      try simp only[Act.put]
      try simp only[List.getElem_toArray]
      try simp only[List.getElem_cons_succ]
      try simp only[List.getElem_cons_zero]
      try        refine tq 34 19 (h:=?_)
      simp only[List.setIfInBounds_toArray,List.set_cons_succ,List.set_cons_zero]
      refine rd1 20 ?_
      intro K0 hK0
      have hrf:=HRF.out
      go_simp
      refine hK0.out _ _ (HS.out _ HGF.out) (fun _=>?_)
      clear hK0 K0 hrf
      refine wpAnyH_done (by kernel_rfl) ?_ _
      go_wp2
      go_roundw
      case rel=>exact HREL.out _ HGF.out HPF.out
      case measure=>exact HMEA.out _ HGF.out
    · intro K0 hK0
      have hre:=HRE.out
      go_simp
      refine hK0.out _ _ (HS.out _ HGE.out) (fun hHeld=>?_)
      clear hK0 K0 hre
      try simp only[Act.put]
      try simp only[List.getElem_toArray]
      try simp only[List.getElem_cons_succ]
      try simp only[List.getElem_cons_zero]
      try        refine tq 34 19 (h:=?_)
      simp only[List.setIfInBounds_toArray,List.set_cons_succ,List.set_cons_zero]
      refine rd1 12 ?_
      intro K0 hK0
      have hlk:=HLK2.out
      go_simp
      refine hK0.out _ _ (HS.out _ HGE.out) (fun hHeld=>?_)
      clear hK0 K0 hlk
      try simp only[Act.put]
      try simp only[List.getElem_toArray]
      try simp only[List.getElem_cons_succ]
      try simp only[List.getElem_cons_zero]
      try        refine tq 32 17 (h:=?_)
      simp only[List.setIfInBounds_toArray,List.set_cons_succ,List.set_cons_zero]
      refine rd1 20 ?_
      intro K0 hK0
      have hrf:=HRF.out
      go_simp
      refine hK0.out _ _ (HS.out _ HGF.out) (fun _=>?_)
      clear hK0 K0 hrf
      refine wpAnyH_done (by kernel_rfl) ?_ _
      go_wp2
      go_roundw
      case rel=>exact HREL.out _ HGF.out HPF.out
      case measure=>exact HMEA.out _ HGF.out
end Go.Proofs.Ytefooihnoajnlaa.Poly
/- The walks of (terms.Pairs).Times, by what a ring is worth, and of homfly.rings. -/
namespace Go.Proofs.Ytefooihnoajnlaa.Poly
open Go.RowKit Go.Maps
set_option maxHeartbeats 4000000
set_option maxRecDepth 100000
def ring2 (e:Int):Int:=if e=999 then 1 else if e = -1001 then -1 else 0
def pieceR (left:Lit->Bool) (f:Int->Int) (e:Int):Int:=(if left (klP 999) then 0 else f (e-999))-(if left (klP (-1001)) then 0 else f (e+1001))
theorem r999:Rg 999:=by unfold Rg;omega
theorem r1001:Rg (-1001):=by unfold Rg;omega
theorem pieceR_step {left:Lit->Bool} {f:Int->Int} {x:Int} (hx:Rg x) (hl:left (klP x)=true) (e:Int):pieceR (fun z=>left z&&!z.sameKey (klP x)) f e=pieceR left f e+ring2 x*f (e-x):=by
 show(if(left (klP 999)&&!(klP 999).sameKey (klP x))=true then 0 else f (e-999))-(if(left (klP (-1001))&&!(klP (-1001)).sameKey (klP x))=true then 0 else f (e+1001))=(if left (klP 999)=true then 0 else f (e-999))-(if left (klP (-1001))=true then 0 else f (e+1001))+ring2 x*f (e-x)
 rw[left_struck left hx r999,left_struck left hx r1001]
 unfold ring2
 by_cases h1:x=999
 · subst h1
   rw[if_pos rfl,if_pos rfl,if_neg (show ¬ (-1001:Int)=999 by decide),hl]
   simp
   omega
 · by_cases h2:x = -1001
   · subst h2
     rw[if_neg (show ¬ (999:Int) = -1001 by decide),if_pos (show(-1001:Int) = -1001 from rfl),hl,if_neg (show ¬ (-1001:Int)=999 by decide),if_pos (show(-1001:Int) = -1001 from rfl),show e - -1001=e+1001 by omega]
     simp
     omega
   · rw[if_neg (show ¬ (999:Int)=x from fun q=>h1 q.symm),if_neg (show ¬ (-1001:Int)=x from fun q=>h2 q.symm),if_neg h1,if_neg h2]
     omega
theorem pieceR_start {W:World} {b n B K:Nat} {D:DataW Unit} (h:PrD W b n B K ring2 D) (f:Int->Int) (e:Int):pieceR (Maps.has D) f e=0:=by
 have k1:Maps.has D (klP 999)=true:=by
  cases q:Maps.has D (klP 999) with
  |true=>rfl
  |false=>have:=h.val 999 r999;rw[co_none q]at this;revert this;decide
 have k2:Maps.has D (klP (-1001))=true:=by
  cases q:Maps.has D (klP (-1001)) with
  |true=>rfl
  |false=>have:=h.val (-1001) r1001;rw[co_none q]at this;revert this;decide
 unfold pieceR
 rw[k1,k2]
 rfl
theorem times_ring (bp n B K bq : Nat) (f : Int → Int) (Dp Dq : DataW Unit) (w : World) (hp : PrD w bp n B K f Dp) (hq : PrD w bq 2 1 1 ring2 Dq) (hK : K + 1 ≤ 100) (hn : 2 * n ≤ 1000000000000000000) (hB : 2 * B ≤ 1000000000000000000) :
    Calls Try.prog 63 #[.map (some bp),.map (some bq)] w fun e w'=>∃ b' D',e=.returned (.map (some b'))/\w.heap.size<=b'/\PrD w' b' (2*n) (2*B) (K+1) (fun e=>f (e-999)-f (e+1001)) D'/\Below w.heap.size w w':=by
 have HP:=hidH hp
 have HQ:=hidH hq
 have hlp:=hp.lt
 have hlq:=hq.lt
 have hsq:=hq.own.size_le
 have hmk:=@run_makeMap Try.prog
 clear hp hq
 go_enter Try.func63,Try.ntmps63
 go_wp2_with (first
  |(at_range;refine wpList_range_own _ rfl _ 45 rfl 74 3 lawP Try.underlying45 _ bq 2 _ rfl (HQ.out.own.alloc _) ?_;intro w0 hrg0 hg0 hs0))
 go_frame
 rw[show(w.alloc (.map #[] 0)).heap.size=w.heap.size+1 by simp]at hrg0 hs0 ⊢
 have hP0:PrD w0 w.heap.size 0 0 (K+1) (fun _=>0) (.map []):=(PrD.made w (K+1)).kept hg0 (by simp)
 have hB0:Below w.heap.size w w0:=((Below.refl _ _).alloc (Nat.le_refl _) _).grown hg0 (by simp) (fun q hq=>by cases hq)
 go_loopw [6, 7] (fun _ _ wr => ∃ (left : Lit → Bool) (cnt j : Nat) (D1 : DataW Unit), wr.ranges Try.prog 74 (plainElem Try.prog 3) bq (w.heap.size + 1) 2 Dq left cnt ∧ j + cnt ≤ 2 ∧
     PrD wr w.heap.size (j*n) (j*B) (K+1) (pieceR left f) D1/\Below w.heap.size w wr)
  (fun _ _ wr=>wr.rangeLeft bq (w.heap.size+1))
 case atStart=>
  refine⟨_,_,0,.map [],hrg0,by omega,(by rw[Nat.zero_mul,Nat.zero_mul];exact hP0.congr fun e=>(pieceR_start HQ.out f e).symm),hB0⟩
 case round=>
  clear hrg0 hg0 hs0 hP0 hB0
  rename World=>W1
  obtain⟨left,cnt,j,D1,hrg,hcs,hP1,hb1⟩:=hrel
  go_wp2_with (first
   |(at_next;refine wpList_next_ranges _ rfl _ rfl 74 lawP (plainElem Try.prog 3) (fun v:Value=>v) (fun c:Int=>Value.int .i64 c) (fun key _ _=>⟨key,rfl⟩) (fun v y hv=>by obtain⟨c,e,-⟩:=plainElem_int_inv Try.underlying3 hv;exact⟨c,e⟩) bq (w.heap.size+1) 2 _ _ _ rfl hrg ?_ ?_)
   |go_in)
  · intro hc0 hl0
    go_wp2
    go_ret
    have hj:j*n<=2*n:=Nat.mul_le_mul_right _ (by omega)
    have hj2:j*B<=2*B:=Nat.mul_le_mul_right _ (by omega)
    refine⟨_,D1,rfl,Nat.le_refl _,(hP1.mono hj hj2 (Nat.le_refl _)).congr fun e=>?_,hb1⟩
    unfold pieceR
    rw[hl0,hl0]
    rfl
  · intro x cq kl y yp W2 cnt1 hkey hlk hRy hat hrg2 hlt hg2 hs2 hen
    obtain⟨c',ec,hyc,hwc⟩:=plainElem_int_inv Try.underlying3 hRy
    have hc':cq=c':=by injection ec
    rw[show y=.lit (.int .i64 c') from congrArg Prod.fst hyc,<-hc']at hat
    obtain⟨e0,he0,rfl,rfl,hcg⟩:=key_val HQ.out (by omega) hkey hat
    unfold prV at hen
    obtain⟨x1,hx1⟩:∃ x1,dx e0=x1:=⟨_,rfl⟩
    obtain⟨z1,hz1⟩:∃ z1,dz e0=z1:=⟨_,rfl⟩
    have HX1:Hid (dx e0=x1/\dz e0=z1):=⟨hx1,hz1⟩
    rw[hx1,hz1]at hen
    have HE0:=hidH he0
    have hrr:=he0.rg (show 1<=300 by omega)
    have HPS:=hidH (fun e=>pieceR_step (f:=f) hrr hlk e)
    have hP2:=hP1.kept hg2 (by simp)
    have hb2:=hb1.grown hg2 hb1.size (fun q hq=>by have:=Option.some.inj hq;omega)
    have HB2:=hidH hb2
    have HP2:=hidH hP2
    have hsz2:W2.heap.size=W1.heap.size:=hs2
    have HRG:=hidH hrg2
    have HCG:=hidH hcg
    clear hP1 hb1 hP2 hb2 hlk hat hRy hyc ec hwc hc' hx1 hz1 hkey he0 hcg hs2 hsz2 hrr hg2
    have hls:w.heap.size+1<W2.heap.size:=hrg2.lt
    obtain⟨V2,hV2⟩:∃ V2,W2.alloc (.cells #[.int .i64 x1,.int .i64 z1] 74)=V2:=⟨_,rfl⟩
    have hgV:W2.grownBy V2 none:=by rw[<-hV2];exact World.grownBy_alloc _ _ none
    have hbV:V2.heap[W2.heap.size]?=some (.cells #[.int .i64 x1,.int .i64 z1] 74 (0,0)):=by rw[<-hV2];exact alloc_at rfl
    have v0:V2.cell? ⟨W2.heap.size,0,none⟩=some (.int .i64 x1):=block_cell hbV rfl
    have v1:V2.cell? ⟨W2.heap.size,1,none⟩=some (.int .i64 z1):=block_cell hbV rfl
    have HV2:=hidH hV2
    have HGV:=hidH hgV
    clear hgV hbV hV2
    go_upto_region 5 with(fail)
    rw[HV2.out]
    have hbx:x1.natAbs<=1/\z1.natAbs<=1:=by
     have:=HE0.out
     unfold Inb at this
     rw[HX1.out.1,HX1.out.2]at this
     omega
    have hc3:cq=1∨cq = -1∨cq=0:=by
     have:=HQ.out.bd e0
     rw[<-HCG.out]at this
     omega
    have hj1:(j+1)*n<=2*n:=Nat.mul_le_mul_right _ (by omega)
    have hj2:(j+1)*B<=2*B:=Nat.mul_le_mul_right _ (by omega)
    rw[Nat.succ_mul]at hj1 hj2
    have HAD:=hidH (add_pairs w.heap.size (j*n) (j*B) (K+1) bp n B K (pieceR left f) f D1 Dp x1 z1 cq V2 (HP2.out.kept HGV.out (by simp)) ((HP.out.kept (grown_below (HB2.out) none) (by simp)).kept HGV.out (by simp)) (by omega) hc3 (by omega) (by omega) (by omega) (by omega) (by omega))
    clear hbx hc3
    go_wp2_with (go_at_call 43;refine HAD.out.mono ?_;rintro e9 w9 ⟨rfl,D9,hP9,hg9⟩)
    have hs9:=hg9.size
    go_roundw
    case rel=>
     refine⟨_,cnt1,j+1,D9,(HRG.out.kept HGV.out (by simp) (by simp)).kept hg9 (fun q=>by have:=Option.some.inj q;omega) (fun q=>by have:=Option.some.inj q;omega),by omega,?_,?_⟩
     · rw[Nat.succ_mul,Nat.succ_mul]
       refine hP9.congr fun e=>?_
       rw[HPS.out,HCG.out]
       congr 3
       have:=(dxz e0).1
       rw[HX1.out.1,HX1.out.2]at this
       omega
     · exact(HB2.out.grown HGV.out HB2.out.size (fun q hq=>by cases hq)).grown hg9 (Nat.le_trans HB2.out.size HGV.out.size) (fun q hq=>by have:=Option.some.inj hq;omega)
    case measure=>
     rw[((HRG.out.kept HGV.out (by simp) (by simp)).kept hg9 (fun q=>by have:=Option.some.inj q;omega) (fun q=>by have:=Option.some.inj q;omega)).left_eq,hrg.left_eq]
     exact hlt
theorem one_lit (W:World):∃ w2 D,(Instr.mapUpdate 45 (.map (some W.heap.size)) (.agg #[.int .i64 0,.int .i64 0]) (.int .i64 1)).run Try.prog (W.alloc (.map #[] 0))=.ok () w2/\PrD w2 W.heap.size 1 1 0 one2 D/\Below W.heap.size W w2:=by
 have h0:=(PrD.made W 0).mono (Nat.le_refl _) (show 0<=1 by omega) (Nat.le_refl _)
 obtain⟨w2,h1,h2,h3⟩:=h0.put (e:=0) (by unfold Inb dx dz;omega) (by omega) (by omega) (by omega) 1 (by decide)
 have e1:prV 0=.agg #[.int .i64 0,.int .i64 0]:=by unfold prV;rw[show dx 0=0 by decide,show dz 0=0 by decide]
 rw[e1]at h1
 exact⟨w2,_,h1,h2,((Below.refl _ _).alloc (Nat.le_refl _) _).grown h3 (by simp) (fun q hq=>by have:=Option.some.inj hq;omega)⟩
theorem two_lit (W:World) (a b c d:Int) (ha:a=999/\c=1/\b = -1001/\d = -1∨a = -1001/\c = -1/\b=999/\d=1):∃ w2 w3 D,(Instr.mapUpdate 45 (.map (some W.heap.size)) (prV a) (.int .i64 c)).run Try.prog (W.alloc (.map #[] 0)).drew=.ok () w2/\(Instr.mapUpdate 45 (.map (some W.heap.size)) (prV b) (.int .i64 d)).run Try.prog w2=.ok () w3/\PrD w3 W.heap.size 2 1 1 ring2 D/\Below W.heap.size W w3:=by
 have h0:=((PrD.made W 1).mono (Nat.le_refl _) (show 0<=1 by omega) (Nat.le_refl _)).kept (grown_below ((Below.refl _ _).drew) none) (by simp)
 have i1:Inb 1 a:=by rcases ha with⟨rfl,-⟩|⟨rfl,-⟩<;>(unfold Inb dx dz;omega)
 have i2:Inb 1 b:=by rcases ha with⟨-,-,rfl,-⟩|⟨-,-,rfl,-⟩<;>(unfold Inb dx dz;omega)
 obtain⟨w2,h1,h2,h3⟩:=h0.put i1 (by omega) (by omega) (by omega) c (by omega)
 obtain⟨w3,k1,k2,k3⟩:=h2.put i2 (by omega) (by omega) (by omega) d (by omega)
 refine⟨w2,w3,_,h1,k1,k2.congr fun e=>?_,((((Below.refl _ _).alloc (Nat.le_refl _) _).drew).grown h3 (by simp) (fun q hq=>by have:=Option.some.inj hq;omega)).grown k3 (by have:=h3.size;simp at this;omega) (fun q hq=>by have:=Option.some.inj hq;omega)⟩
 unfold ring2
 by_cases h1:e = -1001
 · rw[h1]
   rcases ha with⟨rfl,rfl,rfl,rfl⟩|⟨rfl,rfl,rfl,rfl⟩<;>rfl
 · by_cases h2:e=999
   · rw[h2]
     rcases ha with⟨rfl,rfl,rfl,rfl⟩|⟨rfl,rfl,rfl,rfl⟩<;>rfl
   · rw[if_neg h2,if_neg h1,if_neg (by omega),if_neg (by omega)]
theorem pr999:prV 999=.agg #[.int .i64 1,.int .i64 (-1)]:=by unfold prV;rw[show dx 999=1 by decide,show dz 999 = -1 by decide]
theorem pr1001:prV (-1001)=.agg #[.int .i64 (-1),.int .i64 (-1)]:=by unfold prV;rw[show dx (-1001) = -1 by decide,show dz (-1001) = -1 by decide]
theorem pw_next (n:Nat) (e:Int):pwR (n+2) e=pwR (n+1) (e-999)-pwR (n+1) (e+1001):=by
 show 1*pwR (n+1) (e-(1000*1 + -1)) + -1*pwR (n+1) (e-(1000 * -1 + -1))=_
 rw[show e-(1000*1 + -1)=e-999 by omega,show e-(1000 * -1 + -1)=e+1001 by omega]
 omega
theorem rings_any (r:Nat) (w:World) (hr:r<=50):Calls Try.prog 44 #[.int .i64 (r:Nat)] w fun e w'=>∃ b' D',e=.returned (.map (some b'))/\w.heap.size<=b'/\PrD w' b' (2 ^ r) (2 ^ r) r (pwR r) D'/\Below w.heap.size w w':=by
 have hmk:=@run_makeMap Try.prog
 obtain⟨w2,D2,hl,hP,hB⟩:=one_lit w
 have HP:=hidH hP
 have HB:=hidH hB
 have hx:IntKind.i64.wrap ((r:Int)-1)=(r:Int)-1:=wrap_in _ (by omega)
 clear hP hB
 have hp2:∀ k,k<=50->2 ^ k<=2 ^ 50:=fun k hk=>Nat.pow_le_pow_right (by decide) hk
 have HP2:=hidH hp2
 clear hp2
 go_enter Try.func44,Try.ntmps44
 go_wp2
 go_loopw [3,9] (fun v i wr=>∃ (k b:Nat) (D:DataW Unit),(k=0∨k<r)/\v=.map (some b)/\i=.int .i64 (k:Nat)/\w.heap.size<=b/\PrD wr b (2 ^ k) (2 ^ k) k (pwR (k+1)) D/\Below w.heap.size w wr) (fun _ i _=>r-(intOf i).toNat)
 case atStart=>exact⟨0,w.heap.size,D2,Or.inl rfl,rfl,rfl,Nat.le_refl _,HP.out,HB.out⟩
 case round=>
  clear HP HB hl
  rename World=>W
  obtain⟨k,b,D,hk,rfl,rfl,hbl,hP,hB⟩:=hrel
  have HP:=hidH hP
  have HB:=hidH hB
  have hbw:=hP.lt
  clear hP hB
  by_cases hlt:k+1<r
  · have hd:decide ((k:Int)<(r:Int)-1)=true:=by simp;omega
    have hd2:(k:Int)<(r:Int)-1:=by omega
    obtain⟨w5,w6,D6,hl5,hl6,hP6,hB6⟩:=two_lit W 999 (-1001) 1 (-1) (Or.inl ⟨rfl,rfl,rfl,rfl⟩)
    obtain⟨w7,w8,D8,hl7,hl8,hP8,hB8⟩:=two_lit W (-1001) 999 (-1) 1 (Or.inr ⟨rfl,rfl,rfl,rfl⟩)
    rw[pr999]at hl5 hl8
    rw[pr1001]at hl6 hl7
    have HL5:=hidH hl5
    have HL6:=hidH hl6
    have HL7:=hidH hl7
    have HL8:=hidH hl8
    have HP6:=hidH hP6
    have HP8:=hidH hP8
    have HB6:=hidH hB6
    have HB8:=hidH hB8
    have hk50:(2:Nat) ^ (k+1)<=2 ^ 50:=HP2.out (k+1) (by omega)
    rw[Nat.pow_succ]at hk50
    have HTM:=hidH (fun w6 D6 (q1:Below W.heap.size W w6) (q2:PrD w6 W.heap.size 2 1 1 ring2 D6)=>times_ring b (2 ^ k) (2 ^ k) k W.heap.size (pwR (k+1)) D D6 w6 (HP.out.kept (grown_below q1 none) (by simp)) q2 (by omega) (by omega) (by omega))
    clear hl5 hl6 hl7 hl8 hP6 hB6 hP8 hB8 hk50
    go_upto_region 4 with(fail)
    refine rhd (R:=fun _=>True) (S:=fun _=>True) (fun _ _=>trivial) trivial (fun hHeld=>?_)
    refine tq 11 0 (h:=?_)
    refine tq 13 2 (h:=?_)
    refine tq 14 4 (h:=?_)
    simp only[List.setIfInBounds_toArray,List.set_cons_succ,List.set_cons_zero]
    refine rd1 1 ?_
    intro K0 hK0
    go_simp
    refine hK0.out _ _ trivial (fun _=>?_)
    clear hK0 K0
    try simp only[Act.put]
    try simp only[List.getElem_toArray]
    try simp only[List.getElem_cons_succ]
    try simp only[List.getElem_cons_zero]
    try simp only[List.setIfInBounds_toArray,List.set_cons_succ,List.set_cons_zero]
    refine rd2 3 5 ?_ ?_
    · intro K0 hK0
      have hl5:=HL5.out
      go_simp
      refine hK0.out _ _ trivial (fun _=>?_)
      clear hK0 K0 hl5
      refine rd1 5 ?_
      intro K0 hK0
      have hl6:=HL6.out
      go_simp
      refine hK0.out _ _ trivial (fun _=>?_)
      clear hK0 K0 hl6
      try simp only[Act.put]
      try simp only[List.getElem_toArray]
      try simp only[List.getElem_cons_succ]
      try simp only[List.getElem_cons_zero]
      try        refine tq 15 6 (h:=?_)
      simp only[List.setIfInBounds_toArray,List.set_cons_succ,List.set_cons_zero]
      refine rd1 7 ?_
      intro K0 hK0
      go_simp
      go_wp2_with (go_at_call 63;refine(HTM.out _ D6 HB6.out HP6.out).mono ?_;rintro e9 w9 ⟨b9,D9,rfl,hb9,hp9,hB9⟩)
      refine hK0.out _ _ trivial (fun _=>?_)
      clear hK0 K0
      try simp only[Act.put]
      try simp only[List.getElem_toArray]
      try simp only[List.getElem_cons_succ]
      try simp only[List.getElem_cons_zero]
      try        refine tq 3 8 (h:=?_)
      simp only[List.setIfInBounds_toArray,List.set_cons_succ,List.set_cons_zero]
      refine wpAnyH_done (by kernel_rfl) ?_ _
      go_wp2
      go_roundw
      case rel=>
       have s6:=HB6.out.size
       have s1:=HB.out.size
       refine⟨k+1,b9,D9,Or.inr hlt,rfl,by go_num,by omega,?_,HB.out.trans ((HB6.out.trans (hB9.mono s6)).mono s1)⟩
       rw[Nat.pow_succ,Nat.mul_comm]
       exact hp9.congr fun e=>(pw_next k e).symm
      case measure=>simp only[intOf];omega
    · intro K0 hK0
      have hl5:=HL7.out
      go_simp
      refine hK0.out _ _ trivial (fun _=>?_)
      clear hK0 K0 hl5
      refine rd1 3 ?_
      intro K0 hK0
      have hl6:=HL8.out
      go_simp
      refine hK0.out _ _ trivial (fun _=>?_)
      clear hK0 K0 hl6
      try simp only[Act.put]
      try simp only[List.getElem_toArray]
      try simp only[List.getElem_cons_succ]
      try simp only[List.getElem_cons_zero]
      try        refine tq 15 6 (h:=?_)
      simp only[List.setIfInBounds_toArray,List.set_cons_succ,List.set_cons_zero]
      refine rd1 7 ?_
      intro K0 hK0
      go_simp
      go_wp2_with (go_at_call 63;refine(HTM.out _ D8 HB8.out HP8.out).mono ?_;rintro e9 w9 ⟨b9,D9,rfl,hb9,hp9,hB9⟩)
      refine hK0.out _ _ trivial (fun _=>?_)
      clear hK0 K0
      try simp only[Act.put]
      try simp only[List.getElem_toArray]
      try simp only[List.getElem_cons_succ]
      try simp only[List.getElem_cons_zero]
      try        refine tq 3 8 (h:=?_)
      simp only[List.setIfInBounds_toArray,List.set_cons_succ,List.set_cons_zero]
      refine wpAnyH_done (by kernel_rfl) ?_ _
      go_wp2
      go_roundw
      case rel=>
       have s6:=HB8.out.size
       have s1:=HB.out.size
       refine⟨k+1,b9,D9,Or.inr hlt,rfl,by go_num,by omega,?_,HB.out.trans ((HB8.out.trans (hB9.mono s6)).mono s1)⟩
       rw[Nat.pow_succ,Nat.mul_comm]
       exact hp9.congr fun e=>(pw_next k e).symm
      case measure=>simp only[intOf];omega
  · have hd:decide ((k:Int)<(r:Int)-1)=false:=by simp;omega
    have hd2:¬ (k:Int)<(r:Int)-1:=by omega
    go_wp2
    go_ret
    have hle:2 ^ k<=2 ^ r:=Nat.pow_le_pow_right (by decide) (by omega)
    refine⟨b,rfl,hbl,⟨D,(HP.out.mono hle hle (by omega)).congr fun e=>?_⟩,HB.out⟩
    rcases Nat.eq_zero_or_pos r with h0|h0
    · have:k=0:=by omega
      rw[this,h0]
      rfl
    · rw[show k+1=r by omega]
end Go.Proofs.Ytefooihnoajnlaa.Poly
