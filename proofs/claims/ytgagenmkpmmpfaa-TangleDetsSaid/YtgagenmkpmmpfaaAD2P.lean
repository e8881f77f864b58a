/- Several texts of the proof, one behind the other. -/
import Derived.Test.YtgagenmkpmmpfaaPB2P
import Derived.Test.YtgagenmkpmmpfaaPA10P
/- The walk of bits.OnesCount at numbers below 1024. -/
namespace Go.Proofs.Ytgagenmkpmmpfaa.Poly
open Go.RowKit Go.Maps
set_option maxHeartbeats 1000000
set_option maxRecDepth 100000
def onesTo (x:Nat):Nat->Nat
 |0=>0
 |k+1=>onesTo x k+(x >>> k)%2
theorem ones64 (x : Nat) (w : World) (hx : x < 1024) :
    Calls Try.prog 74 #[.int .u64 (x:Int)] w fun e w'=>e=.returned (.int .i64 (onesTo x 10:Nat))/\Below w.heap.size w w':=by
 go_enter Try.func74,Try.ntmps74
 go_wp2
 go_ret
 refine⟨ret_int ?_,Below.refl _ _⟩
 clear w
 revert x
 decide +kernel
theorem ones_any (x : Nat) (w : World) (hx : x < 1024) :
    Calls Try.prog 65 #[.int .u64 (x:Int)] w fun e w'=>e=.returned (.int .i64 (onesTo x 10:Nat))/\Below w.heap.size w w':=by
 go_enter Try.func65,Try.ntmps65
 go_wp2_with (go_at_call 74;refine(ones64 x _ hx).mono ?_;rintro r w1 ⟨rfl,hb1⟩)
 go_ret
 exact⟨rfl,hb1⟩
end Go.Proofs.Ytgagenmkpmmpfaa.Poly
/- The walk of (poly.work).addProduct: a map is added the product of another map and a polynomial. -/
namespace Go.Proofs.Ytgagenmkpmmpfaa.Poly
open Go.RowKit Go.Maps
set_option maxHeartbeats 4000000
set_option maxRecDepth 100000
theorem prodL_part (l : List (Int × Int)) (left : Lit → Bool) (f : Int → Int) (x y : Int) (hl : left (.int .i64 x) = true) :
    prodL l (part (fun z=>left z&&!z.sameKey (.int .i64 x)) f) y=prodL l (part left f) y+f x*coefL l (y-x):=by
 induction l with
 |nil=>simp[prodL,coefL]
 |cons t l ih=>
  simp only[prodL,coefL,ih,part_step,Int.mul_add]
  by_cases h:x=y-t.1
  · rw[if_pos h,if_pos (by omega),<-h,part_at hl,Int.mul_comm t.2 (f x)];omega
  · rw[if_neg h,if_neg (by omega)];omega
theorem coefL_size (l:List (Int×Int)) (x:Int) (k:Nat) (hk:k<=l.length) : -sizeTo l k<=coefL (l.take k) x/\coefL (l.take k) x<=sizeTo l k:=by
 induction k with
 |zero=>simp[sizeTo,coefL]
 |succ k ih=>
  have:=ih (by omega)
  rw[coefL_take l k (by omega),sizeTo]
  unfold absI
  split<;>split<;>omega
theorem sizeTo_mono (l:List (Int×Int)) (i j:Nat) (h:i<=j):sizeTo l i<=sizeTo l j:=by
 induction j with
 | zero => obtain rfl : i = 0 := by omega
           exact Int.le_refl _
 |succ j ih=>
  by_cases he:i=j+1
  · subst he;exact Int.le_refl _
  · have:=ih (by omega)
    rw[sizeTo]
    unfold absI
    split<;>omega
theorem mul_100 {c d:Int} (h0 : -2000000000000<=c) (h1:c<=2000000000000) (h2 : -4<=d) (h3:d<=4) : -200000000000000<=c*d/\c*d<=200000000000000:=by
 have e:(c*d).natAbs<=2000000000000*4:=by
  rw[Int.natAbs_mul]
  exact Nat.mul_le_mul (by omega) (by omega)
 omega
theorem prodL_size (l : List (Int × Int)) (g : Int → Int) (hg : ∀ x, -2000000000000 ≤ g x ∧ g x ≤ 2000000000000) (y : Int) (k : Nat) (hk : k ≤ l.length) :
    -(2000000000000*sizeTo l k)<=prodL (l.take k) g y/\prodL (l.take k) g y<=2000000000000*sizeTo l k:=by
 induction k with
 |zero=>simp[sizeTo,prodL]
 |succ k ih=>
  have ih:=ih (by omega)
  have hk':k<l.length:=by omega
  rw[List.take_succ_eq_append_getElem hk',prodL_append,sizeTo]
  have g0:l.getD k (0,0)=l[k]:=by simp[List.getD,hk']
  rw[g0]
  have hb:=hg (y-l[k].1)
  have e:prodL [l[k]] g y=l[k].2*g (y-l[k].1):=by simp[prodL]
  have e2 : -(2000000000000*absI l[k].2)<=l[k].2*g (y-l[k].1)/\l[k].2*g (y-l[k].1)<=2000000000000*absI l[k].2:=by
   have h:(l[k].2*g (y-l[k].1)).natAbs<=l[k].2.natAbs*2000000000000:=by
    rw[Int.natAbs_mul]
    exact Nat.mul_le_mul (Nat.le_refl _) (by omega)
   unfold absI
   split<;>omega
  rw[e]
  omega
theorem part_bd {left:Lit->Bool} {f:Int->Int} (hf:∀ x,-2000000000000<=f x/\f x<=2000000000000) (x:Int) : -2000000000000<=part left f x/\part left f x<=2000000000000:=by
 unfold part
 split
 · omega
 · exact hf x
theorem grown_trans {w w1 w2:World} {row:Option Nat} (h1:w.grownBy w1 row) (h2:w1.grownBy w2 row):w.grownBy w2 row:=
 ⟨h2.os.trans h1.os,h2.tape.trans h1.tape,h2.output.trans h1.output,Nat.le_trans h1.size h2.size,fun k hk hr=>(h2.block k (Nat.lt_of_lt_of_le hk h1.size) hr).trans (h1.block k hk hr)⟩
theorem grown_new {w w1 w2:World} {row:Option Nat} {it:Nat} (h1:w.grownBy w1 row) (h2:w1.grownBy w2 (some it)) (hit:w.heap.size<=it):w.grownBy w2 row:=
 ⟨h2.os.trans h1.os,h2.tape.trans h1.tape,h2.output.trans h1.output,Nat.le_trans h1.size h2.size,fun k hk hr=>(h2.block k (Nat.lt_of_lt_of_le hk h1.size) (fun e=>by have:=Option.some.inj e;omega)).trans (h1.block k hk hr)⟩
theorem grown_none {w w':World} (h:w.grownBy w' none) (row:Option Nat):w.grownBy w' row:=⟨h.os,h.tape,h.output,h.size,fun k hk _=>h.block k hk (by simp)⟩
theorem grown_cell {w w':World} {row:Option Nat} (h:w.grownBy w' row) {b o:Nat} {v:Value} (hb:b<w.heap.size) (hr:some b≠row) (hc:w.cell? ⟨b,o,none⟩=some v):w'.cell? ⟨b,o,none⟩=some v:=by
 rw[World.cell?_of_block (a:=⟨b,o,none⟩) (h.block b hb hr)]
 exact hc
theorem size_len (l:List (Int×Int)) (h:∀ i,i<l.length->(l.getD i (0,0)).2≠0) (k:Nat) (hk:k<=l.length):(k:Int)<=sizeTo l k:=by
 induction k with
 |zero=>simp[sizeTo]
 |succ k ih=>
  have:=ih (by omega)
  have h1:=h k (by omega)
  simp only[sizeTo]
  unfold absI
  split<;>omega
theorem len_four {l:List (Int×Int)} (hm:mayB l=true) (hS:sizeL l<=4):l.length<=4:=by
 have h := size_len l (fun i hi => by
  have ho:=((may_iff l).1 hm).2 i hi
  exact((okB_iff l i).1 ho).2.2.2.2.1) l.length (Nat.le_refl _)
 unfold sizeL at hS
 omega
theorem sg_bd {sg X B:Int} (hsg:sg=1∨sg = -1) (h : -B<=X/\X<=B) : -B<=sg*X/\sg*X<=B:=by
 rcases hsg with rfl|rfl<;>omega
theorem addp_some (sg : Int) (hsg : sg = 1 ∨ sg = -1) (bp np bq nq b off cap : Nat) (Dp Dq : DataW Unit) (l : List (Int × Int)) (w : World) (hp : w.ownsMap Try.prog 3 (plainElem Try.prog 3) bp np Dp) (hq : w.ownsMap Try.prog 3 (plainElem Try.prog 3) bq nq Dq) (hpq : bp ≠ bq)
    (hm:mayB l=true) (hS:sizeL l<=4) (hbw:b<w.heap.size) (hbp:b≠bp) (hT:TermsAt w b off l) (hnp:np<=1000000000000000) (hnq:nq<=10000000000000) (K N:Int) (hKN:K+1000<=N) (hN:N<=100000) (hK:0<=K)
    (hkp:KeysIn Dp N) (hkq:KeysIn Dq K) (hvp:∀ x,-1000000000000000<=coefOf Dp x/\coefOf Dp x<=1000000000000000) (hvq:∀ x,-2000000000000<=coefOf Dq x/\coefOf Dq x<=2000000000000):
    Calls Try.prog 66 #[.map (some bp),.map (some bq),.slice (some ⟨b,off,none⟩) l.length cap,.int .i64 sg] w fun e w'=>∃ D:DataW Unit,e=.returned (.tuple #[])/\w'.ownsMap Try.prog 3 (plainElem Try.prog 3) bp (np+4*nq) D/\
     (∀ y,coefOf D y=coefOf Dp y+sg*prodL l (coefOf Dq) y)/\KeysIn D N/\w.grownBy w' (some bp):=by
 have HSG:Hid (sg=1∨sg = -1):=hsg
 have hl64:l.length<=4:=len_four hm hS
 have hlp:=hp.lt
 have hlq:=hq.lt
 have hsq:=size_le hq
 have HM:Hid (mayB l=true):=hm
 have HS:Hid (sizeL l<=4):=hS
 have HT:Hid (TermsAt w b off l):=hT
 have HKP:Hid (KeysIn Dp N):=hkp
 have HKQ:Hid (KeysIn Dq K):=hkq
 have HVP:Hid (∀ x,-1000000000000000<=coefOf Dp x/\coefOf Dp x<=1000000000000000):=hvp
 have HVQ:Hid (∀ x,-2000000000000<=coefOf Dq x/\coefOf Dq x<=2000000000000):=hvq
 clear hm hS hT hkp hkq hvp hvq
 go_enter Try.func66,Try.ntmps66
 go_wp2_with (first
  |(at_range;refine wpList_range_own _ rfl _ 118 rfl 3 3 law3 Try.underlying118 _ bq nq _ rfl hq ?_;intro w0 hrg0 hg0 hs0))
 go_frame
 go_loopw [8, 9, 11] (fun _ _ _ wr => ∃ (left : Lit → Bool) (cnt k j : Nat) (D : DataW Unit), wr.ranges Try.prog 3 (plainElem Try.prog 3) bq w.heap.size nq Dq left cnt ∧ j + cnt ≤ nq ∧ k ≤ np + 4 * j ∧
     wr.ownsMap Try.prog 3 (plainElem Try.prog 3) bp k D/\Hid (∀ y,coefOf D y=coefOf Dp y+sg*prodL l (part left (coefOf Dq)) y)/\Hid (KeysIn D N)/\w.grownBy wr (some bp))
  (fun _ _ _ wr=>wr.rangeLeft bq w.heap.size)
 case atStart=>
  refine⟨_,_,np,0,Dp,hrg0,by omega,by omega,hp.kept hg0 (by simp),fun y=>?_,HKP.out,grown_none hg0 _⟩
  have e:part (Maps.has Dq) (coefOf Dq)=fun _=>0:=funext fun x=>part_start Dq x
  rw[e,prodL_zero,Int.mul_zero];omega
 case round=>
  clear hrg0 hg0 hs0
  rename World=>W1
  obtain⟨left,cnt,k,j,D,hrg,hcs,hkj,hout,hD,hKD,hgr⟩:=hrel
  go_wp2_with (first
   |(at_next;refine wpList_next_ranges_ii _ rfl _ rfl 3 3 .i64 .i64 law3 Try.underlying3 Try.underlying3 bq w.heap.size nq _ _ _ rfl hrg ?_ ?_)
   |go_in)
  · intro hc0 hl0
    go_wp2
    refine bodyPost_end (v:=.tuple #[]) (by simp[results,Try.results66,go_sem]) rfl ⟨D,rfl,hout.mono (by omega),fun y=>?_,hKD.out,hgr⟩
    have e:part left (coefOf Dq)=coefOf Dq:=funext fun x=>part_end hl0 x
    rw[hD.out,e]
  · intro x c w1 cnt1 hwx hwc hlx hat hrg1 hlt hg1 hs1 hen
    have hx:=HKQ.out x (has_at hat)
    have hcq:=HVQ.out x
    have HF:Hid (coefOf Dq x=c):=coefOf_at hat
    rw[coefOf_at hat]at hcq
    have HL:Hid (left (.int .i64 x)=true):=hlx
    obtain⟨s,hs⟩:∃ s,sg*c=s:=⟨_,rfl⟩
    have hsb : -2000000000000<=s/\s<=2000000000000:=by rw[<-hs];exact sg_bd HSG.out hcq
    have HSC:Hid (sg*c=s):=hs
    have hw1:IntKind.i64.wrap (sg*c)=s:=by rw[hs];exact IntWalk.i64_in _ (by omega)
    clear hs
    have hout1:=hout.kept hg1 (fun e=>by have:=Option.some.inj e;omega)
    have hgr1:=grown_new hgr hg1 (Nat.le_refl _)
    have HB:Hid (∀ y i,i<=l.length -> -2000000000000000<=coefOf Dp y+sg*prodL l (part left (coefOf Dq)) y+s*coefL (l.take i) (y-x)/\coefOf Dp y+sg*prodL l (part left (coefOf Dq)) y+s*coefL (l.take i) (y-x)<=2000000000000000):=fun y i hi=>by
     have h1:=HVP.out y
     have h2:=prodL_size l (part left (coefOf Dq)) (part_bd HVQ.out) y l.length (Nat.le_refl _)
     rw[List.take_length]at h2
     have h2:=sg_bd HSG.out h2
     have h3:=coefL_size l (y-x) i hi
     have h4:=sizeTo_mono l i l.length hi
     have h5:sizeTo l l.length<=4:=HS.out
     have h6:=mul_100 hsb.1 hsb.2 (d:=coefL (l.take i) (y-x)) (by omega) (by omega)
     omega
    clear hat hlx hs1 hg1 hout hgr
    go_wp2
    clear hen
    go_loopw [11, 21] (fun _ i ws => ∃ (i' k2 : Nat) (D2 : DataW Unit), i' ≤ l.length ∧ i = .int .i64 i' ∧ k2 ≤ k + i' ∧ ws.ranges Try.prog 3 (plainElem Try.prog 3) bq w.heap.size nq Dq (fun z => left z && !z.sameKey (.int .i64 x)) cnt1 ∧
        ws.ownsMap Try.prog 3 (plainElem Try.prog 3) bp k2 D2/\Hid (∀ y,coefOf D2 y=coefOf Dp y+sg*prodL l (part left (coefOf Dq)) y+s*coefL (l.take i') (y-x))/\Hid (KeysIn D2 N)/\w.grownBy ws (some bp))
     (fun _ i _=>l.length-(intOf i).toNat)
    case atStart=>
     exact⟨0,k,D,Nat.zero_le _,rfl,by omega,hrg1,hout1,fun y=>by rw[hD.out];simp[coefL],hKD.out,hgr1⟩
    case round=>
     rename World=>W2
     obtain⟨i',k2,D2,hi',rfl,hk2,hrq,hout,hD2,hKD2,hgr⟩:=hrel
     by_cases hil:i'<l.length
     · have hsz:=hgr.size
       have hbr:b<W2.heap.size:=Nat.lt_of_lt_of_le hbw hsz
       have c0:=grown_cell hgr hbw (fun e=>hbp (Option.some.inj e)) (HT.out i' hil).1
       have c1:=grown_cell hgr hbw (fun e=>hbp (Option.some.inj e)) (HT.out i' hil).2
       have hok:=(okB_iff l i').1 (((may_iff l).1 HM.out).2 i' hil)
       have hsz1:absI (l.getD i' (0,0)).2<=4:=by
        have h4:=sizeTo_mono l (i'+1) l.length (by omega)
        have h5:sizeTo l l.length<=4:=HS.out
        have h6:=(sizeTo_le HM.out i' (by omega)).1
        rw[sizeTo]at h4
        omega
       have HTK:Hid (∀ y,coefL (l.take (i'+1)) y=coefL (l.take i') y+(if(l.getD i' (0,0)).1=y then(l.getD i' (0,0)).2 else 0)):=fun y=>coefL_take l i' hil y
       generalize (l.getD i' (0,0)).1=e at c0 hok HTK
       generalize (l.getD i' (0,0)).2=d at c1 hok HTK hsz1
       have hd : -4<=d/\d<=4:=by
        unfold absI at hsz1
        split at hsz1<;>omega
       have hmul:=mul_100 hsb.1 hsb.2 hd.1 hd.2
       have hw2:IntKind.i64.wrap (s*d)=s*d:=IntWalk.i64_in _ (by omega)
       have hbd0:=HB.out (x+e) i' hi'
       have hdm:=hout.isMap
       have HKe:Hid (-N<=x+e/\x+e<=N):=(⟨by omega,by omega⟩ : -N<=x+e/\x+e<=N)
       obtain⟨o1,o2,-⟩:=hok
       clear hsz1
       go_wp2_with (first
        |(at_lookup;refine wpList_lookup_own_int _ rfl _ _ 118 rfl 3 3 .i64 law3 Try.underlying118 Try.underlying3 (zero3 _) bp k2 _ rfl (hout.alloc _) _ _ rfl (keyOf_int_mk Try.underlying3 (WalkArith.wf_i64 (by omega))) ?_;intro c' hat hwc;refine Hid.out ?_))
       refine Lib.hid ?_
       have hc':coefOf D2 (x+e)=c':=coefOf_look hat
       have hbd : -2000000000000000<=c'/\c'<=2000000000000000:=by rw[<-hc',hD2.out];exact hbd0
       have HC':Hid (coefOf D2 (x+e)=c'):=hc'
       clear hat hwc hc' hbd0
       go_wp2_with (first
        |(at_mapUpdate;refine wpList_mapUpdate_own _ rfl _ _ _ 118 rfl 3 3 law3 Try.underlying118 _ bp k2 _ rfl (hout.alloc _) (by unfold maxLen;omega) _ _ _ rfl rfl (keyOf_int_mk Try.underlying3 (WalkArith.wf_i64 (by omega))) _ [] (plainElem_int Try.underlying3 (WalkArith.wf_i64 (by omega))) ?_;intro w4 hown4 hg4;go_frame))
       go_roundw
       case rel=>
        refine⟨i'+1,k2+1,_,by omega,by go_num,by omega,(hrq.alloc _).kept hg4 (fun e=>hpq (Option.some.inj e).symm) (fun e=>by have:=Option.some.inj e;omega),hown4,fun y=>?_,keysIn_put hKD2.out HKe.out.1 HKe.out.2 _,grown_trans (grown_trans hgr (World.grownBy_alloc _ _ _)) hg4⟩
        rw[coefOf_put hdm,HTK.out]
        by_cases hxy:x+e=y
        · have hyx:e=y-x:=by omega
          rw[if_pos hxy,if_pos hyx,<-HC'.out,hD2.out,hxy,Int.mul_add];omega
        · have hyx:¬ e=y-x:=by omega
          rw[if_neg hxy,if_neg hyx,hD2.out];simp
       case measure=>simp only[intOf];omega
     · obtain rfl:i'=l.length:=by omega
       go_wp2
       go_roundw
       case rel=>
        refine⟨_,cnt1,k2,j+1,D2,hrq,by omega,by omega,hout,fun y=>?_,hKD2.out,hgr⟩
        rw[prodL_part l left (coefOf Dq) x y HL.out,HF.out,hD2.out,List.take_length,Int.mul_add,<-Int.mul_assoc,HSC.out];omega
       case measure=>rw[hrq.left_eq,hrg.left_eq];exact hlt
end Go.Proofs.Ytgagenmkpmmpfaa.Poly
/- The walk of (poly.work).addProduct at any polynomial that may be handed in. -/
namespace Go.Proofs.Ytgagenmkpmmpfaa.Poly
open Go.RowKit Go.Maps
set_option maxHeartbeats 4000000
set_option maxRecDepth 100000
theorem addp_none (sg : Int) (bp bq nq cap : Nat) (a : Option Addr) (Dq : DataW Unit) (w : World) (hq : w.ownsMap Try.prog 3 (plainElem Try.prog 3) bq nq Dq) :
    Calls Try.prog 66 #[.map (some bp),.map (some bq),.slice a 0 cap,.int .i64 sg] w fun e w'=>e=.returned (.tuple #[])/\w.grownBy w' none:=by
 have hlq:=hq.lt
 go_enter Try.func66,Try.ntmps66
 go_wp2_with (first
  |(at_range;refine wpList_range_own _ rfl _ 118 rfl 3 3 law3 Try.underlying118 _ bq nq _ rfl hq ?_;intro w0 hrg0 hg0 hs0))
 go_frame
 go_loopw [8,9,11] (fun _ _ _ wr=>∃ (left:Lit->Bool) (cnt:Nat),wr.ranges Try.prog 3 (plainElem Try.prog 3) bq w.heap.size nq Dq left cnt/\w.grownBy wr none)
  (fun _ _ _ wr=>wr.rangeLeft bq w.heap.size)
 case atStart=>exact⟨_,_,hrg0,hg0⟩
 case round=>
  clear hrg0 hg0 hs0
  rename World=>W1
  obtain⟨left,cnt,hrg,hgr⟩:=hrel
  go_wp2_with (first
   |(at_next;refine wpList_next_ranges_ii _ rfl _ rfl 3 3 .i64 .i64 law3 Try.underlying3 Try.underlying3 bq w.heap.size nq _ _ _ rfl hrg ?_ ?_)
   |go_in)
  · intro hc0 hl0
    go_wp2
    exact bodyPost_end (v:=.tuple #[]) (by simp[results,Try.results66,go_sem]) rfl ⟨rfl,hgr⟩
  · intro x c w1 cnt1 hwx hwc hlx hat hrg1 hlt hg1 hs1 hen
    have hgr1:=grown_new hgr hg1 (Nat.le_refl _)
    clear hat hlx hs1 hg1 hgr
    go_wp2
    clear hen
    go_loopw [11,21] (fun _ i ws=>i=.int .i64 0/\ws.ranges Try.prog 3 (plainElem Try.prog 3) bq w.heap.size nq Dq (fun z=>left z&&!z.sameKey (.int .i64 x)) cnt1/\w.grownBy ws none) (fun _ _ _=>0)
    case atStart=>exact⟨rfl,hrg1,hgr1⟩
    case round=>
     rename World=>W2
     obtain⟨rfl,hrq,hgr⟩:=hrel
     go_wp2
     go_roundw
     case rel=>exact⟨_,cnt1,hrq,hgr⟩
     case measure=>rw[hrq.left_eq,hrg.left_eq];exact hlt
theorem not_map {w:World} {bp np b o:Nat} {D:DataW Unit} {v:Value} (hp:w.ownsMap Try.prog 3 (plainElem Try.prog 3) bp np D) (hc:w.cell? ⟨b,o,none⟩=some v):b≠bp:=by
 rintro rfl
 obtain⟨es,clock,hw,_⟩:=hp
 simp[World.cell?,hw]at hc
theorem addp_poly (sg : Int) (hsg : sg = 1 ∨ sg = -1) (bp np bq nq : Nat) (Dp Dq : DataW Unit) (v : Value) (l : List (Int × Int)) (w : World) (hp : w.ownsMap Try.prog 3 (plainElem Try.prog 3) bp np Dp) (hq : w.ownsMap Try.prog 3 (plainElem Try.prog 3) bq nq Dq) (hpq : bp ≠ bq)
    (hm:mayB l=true) (hS:sizeL l<=4) (hP:Poly w w.heap.size v l) (hnp:np<=1000000000000000) (hnq:nq<=10000000000000) (K N:Int) (hKN:K+1000<=N) (hN:N<=100000) (hK:0<=K)
    (hkp:KeysIn Dp N) (hkq:KeysIn Dq K) (hvp:∀ x,-1000000000000000<=coefOf Dp x/\coefOf Dp x<=1000000000000000) (hvq:∀ x,-2000000000000<=coefOf Dq x/\coefOf Dq x<=2000000000000):
    Calls Try.prog 66 #[.map (some bp),.map (some bq),v,.int .i64 sg] w fun e w'=>∃ D:DataW Unit,e=.returned (.tuple #[])/\w'.ownsMap Try.prog 3 (plainElem Try.prog 3) bp (np+4*nq) D/\
     (∀ y,coefOf D y=coefOf Dp y+sg*prodL l (coefOf Dq) y)/\KeysIn D N/\w.grownBy w' (some bp):=by
 obtain⟨a,cap,rfl,g⟩:=hP.slice
 rcases Nat.eq_zero_or_pos l.length with h0|h0
 · have e0:l=[]:=List.length_eq_zero_iff.1 h0
   subst e0
   refine(addp_none sg bp bq nq cap a Dq w hq).mono ?_
   rintro e w' ⟨rfl,hg⟩
   exact⟨Dp,rfl,(hp.kept hg (by simp)).mono (by omega),fun y=>by simp[prodL],hkp,grown_none hg _⟩
 · obtain⟨b,off,rfl,hlt,hT⟩:=g h0
   exact addp_some sg hsg bp np bq nq b off cap Dp Dq l w hp hq hpq hm hS hlt (not_map hp (hT 0 h0).1) hT hnp hnq K N hKN hN hK hkp hkq hvp hvq
end Go.Proofs.Ytgagenmkpmmpfaa.Poly
/- Burau's tables: plain mathematics of polynomials as functions. -/
namespace Go.Proofs.Ytgagenmkpmmpfaa.Poly
open Go.RowKit Go.Maps
theorem canon_coefB {l:List (Int×Int)} {f:Int->Int} (h:Canon l f) (x:Int):coefL l x=f x:=by
 have hn:l.Pairwise (fun a b=>a.1≠b.1):=h.1.imp fun hab=>by omega
 have hz:∀ t∈l,t.2≠0:=fun t ht=>((h.2 t.1 t.2).1 ht).2
 by_cases h0:f x=0
 · rw[h0]
   by_cases h1:coefL l x=0
   · exact h1
   · have:=(coefL_mem hn hz x (coefL l x)).2 ⟨rfl,h1⟩
     have:=((h.2 x (coefL l x)).1 this).1
     rw[h0]at this
     exact this.symm
 · have:=(h.2 x (f x)).2 ⟨rfl,h0⟩
   exact((coefL_mem hn hz x (f x)).1 this).1
structure BuOk (H K:Nat) (f:Int->Int):Prop where
 bd:∀ y,-(H:Int)<=f y/\f y<=H
 sp:∀ y,f y≠0 -> -(K:Int)<=y/\y<=K
theorem BuOk.mono {H K H' K':Nat} {f:Int->Int} (h:BuOk H K f) (h1:H<=H') (h2:K<=K'):BuOk H' K' f:=⟨fun y=>by have:=h.bd y;omega,fun y hy=>by have:=h.sp y hy;omega⟩
end Go.Proofs.Ytgagenmkpmmpfaa.Poly
