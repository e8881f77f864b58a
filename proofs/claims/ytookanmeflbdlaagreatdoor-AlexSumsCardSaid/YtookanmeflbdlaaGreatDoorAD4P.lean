/- Several texts of the proof, one behind the other. -/
import Derived.Test.YtookanmeflbdlaaGreatDoorTkhP
import Derived.Test.YtookanmeflbdlaaGreatDoorPB4P
/- The walk of (poly.work).addProduct: a map is added the product of another map and a polynomial. -/
namespace Go.Proofs.YtookanmeflbdlaaGreatDoor.Poly
open Go.RowKit Go.Maps
set_option maxHeartbeats 4000000
set_option maxRecDepth 100000
theorem ZF0 (l : List (Int × Int)) (left : Lit → Bool) (f : Int → Int) (x y : Int) (hl : left (.int .i64 x) = true) :
    prodL l (part (fun z=>left z&&!z.sameKey (.int .i64 x)) f) y=prodL l (part left f) y+f x*coefL l (y-x):=by
 induction l with
 |nil=>simp[prodL,coefL]
 |cons t l ih=>
  simp only[prodL,coefL,ih,QY3,Int.mul_add]
  by_cases h:x=y-t.1
  · rw[if_pos h,if_pos (by omega),<-h,Qu8 hl,Int.mul_comm t.2 (f x)];omega
  · rw[if_neg h,if_neg (by omega)];omega
theorem ZA7 (l:List (Int×Int)) (x:Int) (k:Nat) (hk:k<=l.length) : -QK5 l k<=coefL (l.take k) x/\coefL (l.take k) x<=QK5 l k:=by
 induction k with
 |zero=>simp[QK5,coefL]
 |succ k ih=>
  have:=ih (by omega)
  rw[QH0 l k (by omega),QK5]
  unfold Xu3
  split<;>split<;>omega
theorem XJ1 (l:List (Int×Int)) (i j:Nat) (h:i<=j):QK5 l i<=QK5 l j:=by
 induction j with
 | zero => obtain rfl : i = 0 := by omega
           exact Int.le_refl _
 |succ j ih=>
  by_cases he:i=j+1
  · subst he;exact Int.le_refl _
  · have:=ih (by omega)
    rw[QK5]
    unfold Xu3
    split<;>omega
theorem Zj5 {c d:Int} (h0 : -2000000000000<=c) (h1:c<=2000000000000) (h2 : -4<=d) (h3:d<=4) : -200000000000000<=c*d/\c*d<=200000000000000:=by
 have e:(c*d).natAbs<=2000000000000*4:=by
  rw[Int.natAbs_mul]
  exact Nat.mul_le_mul (by omega) (by omega)
 omega
theorem prodL_size (l : List (Int × Int)) (g : Int → Int) (hg : ∀ x, -2000000000000 ≤ g x ∧ g x ≤ 2000000000000) (y : Int) (k : Nat) (hk : k ≤ l.length) :
    -(2000000000000*QK5 l k)<=prodL (l.take k) g y/\prodL (l.take k) g y<=2000000000000*QK5 l k:=by
 induction k with
 |zero=>simp[QK5,prodL]
 |succ k ih=>
  have ih:=ih (by omega)
  have hk':k<l.length:=by omega
  rw[List.take_succ_eq_append_getElem hk',QD9,QK5]
  have g0:l.getD k (0,0)=l[k]:=by simp[List.getD,hk']
  rw[g0]
  have hb:=hg (y-l[k].1)
  have e:prodL [l[k]] g y=l[k].2*g (y-l[k].1):=by simp[prodL]
  have e2 : -(2000000000000*Xu3 l[k].2)<=l[k].2*g (y-l[k].1)/\l[k].2*g (y-l[k].1)<=2000000000000*Xu3 l[k].2:=by
   have h:(l[k].2*g (y-l[k].1)).natAbs<=l[k].2.natAbs*2000000000000:=by
    rw[Int.natAbs_mul]
    exact Nat.mul_le_mul (Nat.le_refl _) (by omega)
   unfold Xu3
   split<;>omega
  rw[e]
  omega
theorem Ku9 {left:Lit->Bool} {f:Int->Int} (hf:∀ x,-2000000000000<=f x/\f x<=2000000000000) (x:Int) : -2000000000000<=part left f x/\part left f x<=2000000000000:=by
 unfold part
 split
 · omega
 · exact hf x
theorem grown_trans {w w1 w2:World} {row:Option Nat} (h1:w.grownBy w1 row) (h2:w1.grownBy w2 row):w.grownBy w2 row:=
 ⟨h2.os.trans h1.os,h2.tape.trans h1.tape,h2.output.trans h1.output,Nat.le_trans h1.size h2.size,fun k hk hr=>(h2.block k (Nat.lt_of_lt_of_le hk h1.size) hr).trans (h1.block k hk hr)⟩
theorem grown_new {w w1 w2:World} {row:Option Nat} {it:Nat} (h1:w.grownBy w1 row) (h2:w1.grownBy w2 (some it)) (hit:w.heap.size<=it):w.grownBy w2 row:=
 ⟨h2.os.trans h1.os,h2.tape.trans h1.tape,h2.output.trans h1.output,Nat.le_trans h1.size h2.size,fun k hk hr=>(h2.block k (Nat.lt_of_lt_of_le hk h1.size) (fun e=>by have:=Option.some.inj e;omega)).trans (h1.block k hk hr)⟩
theorem grown_none {w w':World} (h:w.grownBy w' none) (row:Option Nat):w.grownBy w' row:=⟨h.os,h.tape,h.output,h.size,fun k hk _=>h.block k hk (by simp)⟩
theorem XB2 {w w':World} {row:Option Nat} (h:w.grownBy w' row) {b o:Nat} {v:Value} (hb:b<w.heap.size) (hr:some b≠row) (hc:w.cell? ⟨b,o,none⟩=some v):w'.cell? ⟨b,o,none⟩=some v:=by
 rw[World.cell?_of_block (a:=⟨b,o,none⟩) (h.block b hb hr)]
 exact hc
theorem KV9 (l:List (Int×Int)) (h:∀ i,i<l.length->(l.getD i (0,0)).2≠0) (k:Nat) (hk:k<=l.length):(k:Int)<=QK5 l k:=by
 induction k with
 |zero=>simp[QK5]
 |succ k ih=>
  have:=ih (by omega)
  have h1:=h k (by omega)
  simp only[QK5]
  unfold Xu3
  split<;>omega
theorem KB3 {l:List (Int×Int)} (hm:mayB l=true) (hS:QH3 l<=4):l.length<=4:=by
 have h := KV9 l (fun i hi => by
  have ho:=((may_iff l).1 hm).2 i hi
  exact((okB_iff l i).1 ho).2.2.2.2.1) l.length (Nat.le_refl _)
 unfold QH3 at hS
 omega
theorem JQ0 {sg X B:Int} (hsg:sg=1∨sg = -1) (h : -B<=X/\X<=B) : -B<=sg*X/\sg*X<=B:=by
 rcases hsg with rfl|rfl<;>omega
theorem KZ9 (sg : Int) (hsg : sg = 1 ∨ sg = -1) (bp np bq nq b off cap : Nat) (Dp Dq : DataW Unit) (l : List (Int × Int)) (w : World) (hp : w.ownsMap Tryz.prog 3 (plainElem Tryz.prog 3) bp np Dp) (hq : w.ownsMap Tryz.prog 3 (plainElem Tryz.prog 3) bq nq Dq) (hpq : bp ≠ bq)
    (hm:mayB l=true) (hS:QH3 l<=4) (hbw:b<w.heap.size) (hbp:b≠bp) (hT:TermsAt w b off l) (hnp:np<=1000000000000000) (hnq:nq<=10000000000000) (K N:Int) (hKN:K+1000<=N) (hN:N<=100000) (hK:0<=K)
    (hkp:QZ4 Dp N) (hkq:QZ4 Dq K) (hvp:∀ x,-1000000000000000<=coefOf Dp x/\coefOf Dp x<=1000000000000000) (hvq:∀ x,-2000000000000<=coefOf Dq x/\coefOf Dq x<=2000000000000):
    Calls Tryz.prog 71 #[.map (some bp),.map (some bq),.slice (some ⟨b,off,none⟩) l.length cap,.int .i64 sg] w fun e w'=>∃ D:DataW Unit,e=.returned (.tuple #[])/\w'.ownsMap Tryz.prog 3 (plainElem Tryz.prog 3) bp (np+4*nq) D/\
     (∀ y,coefOf D y=coefOf Dp y+sg*prodL l (coefOf Dq) y)/\QZ4 D N/\w.grownBy w' (some bp):=by
 have HSG:=hidB hsg
 have hl64:l.length<=4:=KB3 hm hS
 have hlp:=hp.lt
 have hlq:=hq.lt
 have hsq:=size_le hq
 have HM:=hidB hm
 have HS:=hidB hS
 have HT:=hidB hT
 have HKP:=hidB hkp
 have HKQ:=hidB hkq
 have HVP:=hidB hvp
 have HVQ:=hidB hvq
 clear hm hS hT hkp hkq hvp hvq
 go_enter Tryz.func71,Tryz.ntmps71
 go_wp2_with (first
  |(at_range;refine wpList_range_own _ rfl _ 58 rfl 3 3 law3 Tryz.underlying58 _ bq nq _ rfl hq ?_;intro w0 hrg0 hg0 hs0))
 go_frame
 go_loopw [8, 9, 11] (fun _ _ _ wr => ∃ (left : Lit → Bool) (cnt k j : Nat) (D : DataW Unit), wr.ranges Tryz.prog 3 (plainElem Tryz.prog 3) bq w.heap.size nq Dq left cnt ∧ j + cnt ≤ nq ∧ k ≤ np + 4 * j ∧
     wr.ownsMap Tryz.prog 3 (plainElem Tryz.prog 3) bp k D/\Hid (∀ y,coefOf D y=coefOf Dp y+sg*prodL l (part left (coefOf Dq)) y)/\Hid (QZ4 D N)/\w.grownBy wr (some bp))
  (fun _ _ _ wr=>wr.rangeLeft bq w.heap.size)
 case atStart=>
  refine⟨_,_,np,0,Dp,hrg0,by omega,by omega,hp.kept hg0 (by simp),fun y=>?_,HKP.out,grown_none hg0 _⟩
  have e:part (Maps.has Dq) (coefOf Dq)=fun _=>0:=funext fun x=>QB2 Dq x
  rw[e,QG7,Int.mul_zero];omega
 case round=>
  clear hrg0 hg0 hs0
  rename World=>W1
  obtain⟨left,cnt,k,j,D,hrg,hcs,hkj,hout,hD,hKD,hgr⟩:=hrel
  go_wp2_with (first
   |(at_next;refine wpList_next_ranges_ii _ rfl _ rfl 3 3 .i64 .i64 law3 Tryz.underlying3 Tryz.underlying3 bq w.heap.size nq _ _ _ rfl hrg ?_ ?_)
   |go_in)
  · intro hc0 hl0
    go_wp2
    refine bodyPost_end (v:=.tuple #[]) (by simp[results,Tryz.results71,go_sem]) rfl ⟨D,rfl,hout.mono (by omega),fun y=>?_,hKD.out,hgr⟩
    have e:part left (coefOf Dq)=coefOf Dq:=funext fun x=>QD5 hl0 x
    rw[hD.out,e]
  · intro x c w1 cnt1 hwx hwc hlx hat hrg1 hlt hg1 hs1 hen
    have hx:=HKQ.out x (Qj4 hat)
    have hcq:=HVQ.out x
    have HF:=hidB (coefOf_at hat)
    rw[coefOf_at hat]at hcq
    have HL:=hidB hlx
    obtain⟨s,hs⟩:∃ s,sg*c=s:=⟨_,rfl⟩
    have hsb : -2000000000000<=s/\s<=2000000000000:=by rw[<-hs];exact JQ0 HSG.out hcq
    have HSC:=hidB hs
    have hw1:IntKind.i64.wrap (sg*c)=s:=by rw[hs];exact IntWalk.i64_in _ (by omega)
    clear hs
    have hout1:=hout.kept hg1 (fun e=>by have:=Option.some.inj e;omega)
    have hgr1:=grown_new hgr hg1 (Nat.le_refl _)
    have HB:Hid (∀ y i,i<=l.length -> -2000000000000000<=coefOf Dp y+sg*prodL l (part left (coefOf Dq)) y+s*coefL (l.take i) (y-x)/\coefOf Dp y+sg*prodL l (part left (coefOf Dq)) y+s*coefL (l.take i) (y-x)<=2000000000000000):=fun y i hi=>by
     have h1:=HVP.out y
     have h2:=prodL_size l (part left (coefOf Dq)) (Ku9 HVQ.out) y l.length (Nat.le_refl _)
     rw[List.take_length]at h2
     have h2:=JQ0 HSG.out h2
     have h3:=ZA7 l (y-x) i hi
     have h4:=XJ1 l i l.length hi
     have h5:QK5 l l.length<=4:=HS.out
     have h6:=Zj5 hsb.1 hsb.2 (d:=coefL (l.take i) (y-x)) (by omega) (by omega)
     omega
    clear hat hlx hs1 hg1 hout hgr
    go_wp2
    clear hen
    go_loopw [11, 21] (fun _ i ws => ∃ (i' k2 : Nat) (D2 : DataW Unit), i' ≤ l.length ∧ i = .int .i64 i' ∧ k2 ≤ k + i' ∧ ws.ranges Tryz.prog 3 (plainElem Tryz.prog 3) bq w.heap.size nq Dq (fun z => left z && !z.sameKey (.int .i64 x)) cnt1 ∧
        ws.ownsMap Tryz.prog 3 (plainElem Tryz.prog 3) bp k2 D2/\Hid (∀ y,coefOf D2 y=coefOf Dp y+sg*prodL l (part left (coefOf Dq)) y+s*coefL (l.take i') (y-x))/\Hid (QZ4 D2 N)/\w.grownBy ws (some bp))
     (fun _ i _=>l.length-(intOf i).toNat)
    case atStart=>
     exact⟨0,k,D,Nat.zero_le _,rfl,by omega,hrg1,hout1,fun y=>by rw[hD.out];simp[coefL],hKD.out,hgr1⟩
    case round=>
     rename World=>W2
     obtain⟨i',k2,D2,hi',rfl,hk2,hrq,hout,hD2,hKD2,hgr⟩:=hrel
     by_cases hil:i'<l.length
     · have hsz:=hgr.size
       have hbr:b<W2.heap.size:=Nat.lt_of_lt_of_le hbw hsz
       have c0:=XB2 hgr hbw (fun e=>hbp (Option.some.inj e)) (HT.out i' hil).1
       have c1:=XB2 hgr hbw (fun e=>hbp (Option.some.inj e)) (HT.out i' hil).2
       have hok:=(okB_iff l i').1 (((may_iff l).1 HM.out).2 i' hil)
       have hsz1:Xu3 (l.getD i' (0,0)).2<=4:=by
        have h4:=XJ1 l (i'+1) l.length (by omega)
        have h5:QK5 l l.length<=4:=HS.out
        have h6:=(Zy7 HM.out i' (by omega)).1
        rw[QK5]at h4
        omega
       have HTK:Hid (∀ y,coefL (l.take (i'+1)) y=coefL (l.take i') y+(if(l.getD i' (0,0)).1=y then(l.getD i' (0,0)).2 else 0)):=fun y=>QH0 l i' hil y
       generalize (l.getD i' (0,0)).1=e at c0 hok HTK
       generalize (l.getD i' (0,0)).2=d at c1 hok HTK hsz1
       have hd : -4<=d/\d<=4:=by
        unfold Xu3 at hsz1
        split at hsz1<;>omega
       have hmul:=Zj5 hsb.1 hsb.2 hd.1 hd.2
       have hw2:IntKind.i64.wrap (s*d)=s*d:=IntWalk.i64_in _ (by omega)
       have hbd0:=HB.out (x+e) i' hi'
       have hdm:=hout.isMap
       have HKe:Hid (-N<=x+e/\x+e<=N):=(⟨by omega,by omega⟩ : -N<=x+e/\x+e<=N)
       obtain⟨o1,o2,-⟩:=hok
       clear hsz1
       go_wp2_with (first
        |(at_lookup;refine wpList_lookup_own_int _ rfl _ _ 58 rfl 3 3 .i64 law3 Tryz.underlying58 Tryz.underlying3 (zero3 _) bp k2 _ rfl (hout.alloc _) _ _ rfl (keyOf_int_mk Tryz.underlying3 (WalkArith.wf_i64 (by omega))) ?_;intro c' hat hwc;refine Hid.out ?_))
       refine Lib.hid ?_
       have hc':coefOf D2 (x+e)=c':=coefOf_look hat
       have hbd : -2000000000000000<=c'/\c'<=2000000000000000:=by rw[<-hc',hD2.out];exact hbd0
       have HC':Hid (coefOf D2 (x+e)=c'):=hc'
       clear hat hwc hc' hbd0
       go_wp2_with (first
        |(at_mapUpdate;refine wpList_mapUpdate_own _ rfl _ _ _ 58 rfl 3 3 law3 Tryz.underlying58 _ bp k2 _ rfl (hout.alloc _) (by unfold maxLen;omega) _ _ _ rfl rfl (keyOf_int_mk Tryz.underlying3 (WalkArith.wf_i64 (by omega))) _ [] (plainElem_int Tryz.underlying3 (WalkArith.wf_i64 (by omega))) ?_;intro w4 hown4 hg4;go_frame))
       go_roundw
       case rel=>
        refine⟨i'+1,k2+1,_,by omega,by go_num,by omega,(hrq.alloc _).kept hg4 (fun e=>hpq (Option.some.inj e).symm) (fun e=>by have:=Option.some.inj e;omega),hown4,fun y=>?_,QV6 hKD2.out HKe.out.1 HKe.out.2 _,grown_trans (grown_trans hgr (World.grownBy_alloc _ _ _)) hg4⟩
        rw[coefOf_put hdm,HTK.out]
        by_cases hxy:x+e=y
        · have hyx:e=y-x:=by omega
          rw[if_pos hxy,if_pos hyx,<-HC'.out,hD2.out,hxy,Int.mul_add];omega
        · have hyx:¬ e=y-x:=by omega
          rw[if_neg hxy,if_neg hyx,hD2.out];simp
       case measure=>simp only[intOf];omega
     · obtain rfl:i'=l.length:=by omega
       go_wp2
       go_roundw
       case rel=>
        refine⟨_,cnt1,k2,j+1,D2,hrq,by omega,by omega,hout,fun y=>?_,hKD2.out,hgr⟩
        rw[ZF0 l left (coefOf Dq) x y HL.out,HF.out,hD2.out,List.take_length,Int.mul_add,<-Int.mul_assoc,HSC.out];omega
       case measure=>rw[hrq.left_eq,hrg.left_eq];exact hlt
end Go.Proofs.YtookanmeflbdlaaGreatDoor.Poly
/- The walk of (poly.work).addProduct at any polynomial that may be handed in. -/
namespace Go.Proofs.YtookanmeflbdlaaGreatDoor.Poly
open Go.RowKit Go.Maps
set_option maxHeartbeats 4000000
set_option maxRecDepth 100000
theorem KK0 (sg : Int) (bp bq nq cap : Nat) (a : Option Addr) (Dq : DataW Unit) (w : World) (hq : w.ownsMap Tryz.prog 3 (plainElem Tryz.prog 3) bq nq Dq) :
    Calls Tryz.prog 71 #[.map (some bp),.map (some bq),.slice a 0 cap,.int .i64 sg] w fun e w'=>e=.returned (.tuple #[])/\w.grownBy w' none:=by
 have hlq:=hq.lt
 go_enter Tryz.func71,Tryz.ntmps71
 go_wp2_with (first
  |(at_range;refine wpList_range_own _ rfl _ 58 rfl 3 3 law3 Tryz.underlying58 _ bq nq _ rfl hq ?_;intro w0 hrg0 hg0 hs0))
 go_frame
 go_loopw [8,9,11] (fun _ _ _ wr=>∃ (left:Lit->Bool) (cnt:Nat),wr.ranges Tryz.prog 3 (plainElem Tryz.prog 3) bq w.heap.size nq Dq left cnt/\w.grownBy wr none)
  (fun _ _ _ wr=>wr.rangeLeft bq w.heap.size)
 case atStart=>exact⟨_,_,hrg0,hg0⟩
 case round=>
  clear hrg0 hg0 hs0
  rename World=>W1
  obtain⟨left,cnt,hrg,hgr⟩:=hrel
  go_wp2_with (first
   |(at_next;refine wpList_next_ranges_ii _ rfl _ rfl 3 3 .i64 .i64 law3 Tryz.underlying3 Tryz.underlying3 bq w.heap.size nq _ _ _ rfl hrg ?_ ?_)
   |go_in)
  · intro hc0 hl0
    go_wp2
    exact bodyPost_end (v:=.tuple #[]) (by simp[results,Tryz.results71,go_sem]) rfl ⟨rfl,hgr⟩
  · intro x c w1 cnt1 hwx hwc hlx hat hrg1 hlt hg1 hs1 hen
    have hgr1:=grown_new hgr hg1 (Nat.le_refl _)
    clear hat hlx hs1 hg1 hgr
    go_wp2
    clear hen
    go_loopw [11,21] (fun _ i ws=>i=.int .i64 0/\ws.ranges Tryz.prog 3 (plainElem Tryz.prog 3) bq w.heap.size nq Dq (fun z=>left z&&!z.sameKey (.int .i64 x)) cnt1/\w.grownBy ws none) (fun _ _ _=>0)
    case atStart=>exact⟨rfl,hrg1,hgr1⟩
    case round=>
     rename World=>W2
     obtain⟨rfl,hrq,hgr⟩:=hrel
     go_wp2
     go_roundw
     case rel=>exact⟨_,cnt1,hrq,hgr⟩
     case measure=>rw[hrq.left_eq,hrg.left_eq];exact hlt
theorem Ky8 {w:World} {bp np b o:Nat} {D:DataW Unit} {v:Value} (hp:w.ownsMap Tryz.prog 3 (plainElem Tryz.prog 3) bp np D) (hc:w.cell? ⟨b,o,none⟩=some v):b≠bp:=by
 rintro rfl
 obtain⟨es,clock,hw,_⟩:=hp
 simp[World.cell?,hw]at hc
theorem Xv0 (sg : Int) (hsg : sg = 1 ∨ sg = -1) (bp np bq nq : Nat) (Dp Dq : DataW Unit) (v : Value) (l : List (Int × Int)) (w : World) (hp : w.ownsMap Tryz.prog 3 (plainElem Tryz.prog 3) bp np Dp) (hq : w.ownsMap Tryz.prog 3 (plainElem Tryz.prog 3) bq nq Dq) (hpq : bp ≠ bq)
    (hm:mayB l=true) (hS:QH3 l<=4) (hP:Poly w w.heap.size v l) (hnp:np<=1000000000000000) (hnq:nq<=10000000000000) (K N:Int) (hKN:K+1000<=N) (hN:N<=100000) (hK:0<=K)
    (hkp:QZ4 Dp N) (hkq:QZ4 Dq K) (hvp:∀ x,-1000000000000000<=coefOf Dp x/\coefOf Dp x<=1000000000000000) (hvq:∀ x,-2000000000000<=coefOf Dq x/\coefOf Dq x<=2000000000000):
    Calls Tryz.prog 71 #[.map (some bp),.map (some bq),v,.int .i64 sg] w fun e w'=>∃ D:DataW Unit,e=.returned (.tuple #[])/\w'.ownsMap Tryz.prog 3 (plainElem Tryz.prog 3) bp (np+4*nq) D/\
     (∀ y,coefOf D y=coefOf Dp y+sg*prodL l (coefOf Dq) y)/\QZ4 D N/\w.grownBy w' (some bp):=by
 obtain⟨a,cap,rfl,g⟩:=hP.slice
 rcases Nat.eq_zero_or_pos l.length with h0|h0
 · have e0:l=[]:=List.length_eq_zero_iff.1 h0
   subst e0
   refine(KK0 sg bp bq nq cap a Dq w hq).mono ?_
   rintro e w' ⟨rfl,hg⟩
   exact⟨Dp,rfl,(hp.kept hg (by simp)).mono (by omega),fun y=>by simp[prodL],hkp,grown_none hg _⟩
 · obtain⟨b,off,rfl,hlt,hT⟩:=g h0
   exact KZ9 sg hsg bp np bq nq b off cap Dp Dq l w hp hq hpq hm hS hlt (Ky8 hp (hT 0 h0).1) hT hnp hnq K N hKN hN hK hkp hkq hvp hvq
end Go.Proofs.YtookanmeflbdlaaGreatDoor.Poly
/- Tables of polynomials in a world, and the walk of poly.square. -/
namespace Go.Proofs.YtookanmeflbdlaaGreatDoor.Poly
open Go.RowKit Go.Maps
def Slots (w:World) (B:Nat) (v:Value) (xs:List Value):Prop:=
 ∃ a cap,v=.slice a xs.length cap/\(0<xs.length->∃ b off,a=some ⟨b,off,none⟩/\b<B/\∀ i,i<xs.length->w.cell? ⟨b,off+i,none⟩=some (xs.getD i (.bool false)))
theorem Slots.on {w w':World} {B:Nat} {v:Value} {xs:List Value} (h:Slots w B v xs) (hb:Below B w w'):Slots w' B v xs:=by
 obtain⟨a,cap,rfl,g⟩:=h
 refine⟨a,cap,rfl,fun h0=>?_⟩
 obtain⟨b,off,rfl,hlt,hc⟩:=g h0
 exact⟨b,off,rfl,hlt,fun i hi=>bcell hb hlt (hc i hi)⟩
theorem Slots.mono {w:World} {B B':Nat} {v:Value} {xs:List Value} (h:Slots w B v xs) (hB:B<=B'):Slots w B' v xs:=by
 obtain⟨a,cap,rfl,g⟩:=h
 refine⟨a,cap,rfl,fun h0=>?_⟩
 obtain⟨b,off,rfl,hlt,hc⟩:=g h0
 exact⟨b,off,rfl,Nat.lt_of_lt_of_le hlt hB,hc⟩
def Row (w:World) (B:Nat) (v:Value) (T:List (List (Int×Int))):Prop:=
 ∃ ps:List Value,ps.length=T.length/\Slots w B v ps/\∀ j,j<T.length->Poly w B (ps.getD j (.bool false)) (T.getD j [])
def Table (w:World) (B:Nat) (v:Value) (T:List (List (List (Int×Int)))):Prop:=
 ∃ rs:List Value,rs.length=T.length/\Slots w B v rs/\∀ i,i<T.length->Row w B (rs.getD i (.bool false)) (T.getD i [])
theorem Row.on {w w':World} {B:Nat} {v:Value} {T:List (List (Int×Int))} (h:Row w B v T) (hb:Below B w w'):Row w' B v T:=by
 obtain⟨ps,h1,h2,h3⟩:=h
 exact⟨ps,h1,h2.on hb,fun j hj=>(h3 j hj).on hb⟩
theorem Row.mono {w:World} {B B':Nat} {v:Value} {T:List (List (Int×Int))} (h:Row w B v T) (hB:B<=B'):Row w B' v T:=by
 obtain⟨ps,h1,h2,h3⟩:=h
 exact⟨ps,h1,h2.mono hB,fun j hj=>(h3 j hj).mono hB⟩
theorem Table.on {w w':World} {B:Nat} {v:Value} {T:List (List (List (Int×Int)))} (h:Table w B v T) (hb:Below B w w'):Table w' B v T:=by
 obtain⟨rs,h1,h2,h3⟩:=h
 exact⟨rs,h1,h2.on hb,fun j hj=>(h3 j hj).on hb⟩
theorem Table.mono {w:World} {B B':Nat} {v:Value} {T:List (List (List (Int×Int)))} (h:Table w B v T) (hB:B<=B'):Table w B' v T:=by
 obtain⟨rs,h1,h2,h3⟩:=h
 exact⟨rs,h1,h2.mono hB,fun j hj=>(h3 j hj).mono hB⟩
theorem Table.up {w w':World} {v:Value} {T:List (List (List (Int×Int)))} (h:Table w w.heap.size v T) (hb:Below w.heap.size w w'):Table w' w'.heap.size v T:=(h.on hb).mono hb.size
end Go.Proofs.YtookanmeflbdlaaGreatDoor.Poly
/- The columns of a set of bits, and a last row taken column by column. Plain mathematics: no program is named here. -/
namespace Go.Proofs.YtookanmeflbdlaaGreatDoor.Poly
def ZQ9:List Nat->List (Int×Nat×List Nat)
 |[]=>[]
 |c::cs=>(sgn cs.length,c,cs)::(ZQ9 cs).map fun p=>(p.1,p.2.1,c::p.2.2)
def sumE (b:Nat->List (Int×Int)) (h:List Nat->Int->Int):List (Int×Nat×List Nat)->Int->Int
 |[],_=>0
 |p::ps,y=>p.1*prodL (b p.2.1) (h p.2.2) y+sumE b h ps y
theorem KV3 (b:Nat->List (Int×Int)) (h:List Nat->Int->Int) (c:Nat) (ps:List (Int×Nat×List Nat)) (y:Int):sumE b h (ps.map fun p=>(p.1,p.2.1,c::p.2.2)) y=sumE b (fun r=>h (c::r)) ps y:=by
 induction ps with
 |nil=>rfl
 |cons p ps ih=>simp only[List.map_cons,sumE,ih]
theorem ZD0 (b:Nat->List (Int×Int)) (h:List Nat->Int->Int) (cs:List Nat) (y:Int):Qz5 b cs h y=sumE b h (ZQ9 cs) y:=by
 induction cs generalizing h with
 |nil=>rfl
 |cons c cs ih=>simp only[Qz5,ZQ9,sumE,KV3,ih]
theorem Xf4 (b:Nat->List (Int×Int)) (h:List Nat->Int->Int) (ps qs:List (Int×Nat×List Nat)) (y:Int):sumE b h (ps++qs) y=sumE b h ps y+sumE b h qs y:=by
 induction ps with
 |nil=>simp[sumE]
 |cons p ps ih=>simp only[List.cons_append,sumE,ih];omega
def Qz9 (s:Nat):List Nat:=(List.range 10).filter fun c=>(s >>> c)%2==1
def signOf (s c:Nat):Int:=if QK6 (s >>> c) 10%2=0 then -1 else 1
def QV7 (s m:Nat):List (Int×Nat×List Nat):=((List.range m).filter fun c=>(s >>> c)%2==1).map fun c=>(signOf s c,c,Qz9 (s-2 ^ c))
theorem XX5 (s m:Nat):QV7 s (m+1)=QV7 s m++(if(s >>> m)%2=1 then [(signOf s m,m,Qz9 (s-2 ^ m))] else []):=by
 unfold QV7
 rw[List.range_succ,List.filter_append,List.map_append]
 congr 1
 by_cases h:(s >>> m)%2=1
 · simp[h]
 · simp[h]
theorem KU8:∀ s,s<1024->QV7 s 10=ZQ9 (Qz9 s):=by decide +kernel
theorem Xv6:((List.range 11).all fun n=>(List.range (2 ^ n)).all fun s=>decide (QV7 s n=QV7 s 10))=true:=by decide +kernel
theorem KU7 (n:Nat) (hn:n<11) (s:Nat) (hs:s<2 ^ n):QV7 s n=QV7 s 10:=by
 have h:=Xv6
 simp only[List.all_eq_true,List.mem_range,decide_eq_true_eq]at h
 exact h n hn s hs
theorem ZU2:∀ s,s<1024->(Qz9 s).length=QK6 s 10:=by decide +kernel
theorem XK2:∀ n,n<11->Qz9 (2 ^ n-1)=List.range n:=by decide +kernel
theorem Qw9:∀ s,s<1024->∀ c,c<10->(s >>> c)%2=1->s-2 ^ c<s/\QK6 (s-2 ^ c) 10+1=QK6 s 10:=by decide +kernel
theorem Xy9:∀ n,n<11->∀ s,s<2 ^ n->QK6 s 10<=n/\(0<s->0<QK6 s 10):=by decide +kernel
theorem Zb1 (b:Nat->List (Int×Int)) (h:List Nat->Int->Int) (n s:Nat) (hn:n<11) (hs:s<2 ^ n) (y:Int):sumE b h (QV7 s n) y=Qz5 b (Qz9 s) h y:=by
 have h64:s<1024:=Nat.lt_of_lt_of_le hs (Nat.pow_le_pow_right (n:=2) (by decide) (show n<=10 by omega))
 rw[ZD0,KU7 n hn s hs,KU8 s h64]
end Go.Proofs.YtookanmeflbdlaaGreatDoor.Poly
