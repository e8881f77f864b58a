/- Several texts of the proof, one behind the other. -/
import Derived.Test.YtmnejkaihjpejaaGreatDoorPA10P
/- The walk of (poly.work).plus: the sum of two maps, as a new one. -/
namespace Go.Proofs.YtmnejkaihjpejaaGreatDoor.Poly
open Go.RowKit Go.Maps
set_option maxHeartbeats 4000000
set_option maxRecDepth 100000
theorem make46i (n:Int) (w:World):(Instr.makeMap 72 (some (.int .i64 n))).run Tryz.prog w=.ok (.map (some w.heap.size)) (w.alloc (.map #[] 0)):=rfl
def part (left:Lit->Bool) (f:Int->Int) (x:Int):Int:=if left (.int .i64 x) then 0 else f x
theorem part_start (D:DataW Unit) (x:Int):part (Maps.has D) (coefOf D) x=0:=by
 unfold part
 split
 · rfl
 · rename_i h
   exact coefOf_none (by simpa using h)
theorem part_step (left:Lit->Bool) (f:Int->Int) (x y:Int):part (fun z=>left z&&!z.sameKey (.int .i64 x)) f y=if x=y then f x else part left f y:=by
 unfold part
 by_cases h:x=y
 · subst h
   have:(left (.int .i64 x)&&!(Lit.int .i64 x).sameKey (.int .i64 x))=false:=(strike_int left x x).2 (Or.inr rfl)
   simp only[this]
   simp
 · rw[if_neg h]
   cases hy:left (.int .i64 y) with
   |false=>
    have:(left (.int .i64 y)&&!(Lit.int .i64 y).sameKey (.int .i64 x))=false:=(strike_int left x y).2 (Or.inl hy)
    simp only[this]
   |true=>
    have:(left (.int .i64 y)&&!(Lit.int .i64 y).sameKey (.int .i64 x))=true:=by
     cases hh:(left (.int .i64 y)&&!(Lit.int .i64 y).sameKey (.int .i64 x)) with
     |true=>rfl
     |false=>
      rcases(strike_int left x y).1 hh with h1|h1
      · rw[hy]at h1;cases h1
      · exact absurd h1.symm h
    rw[if_pos this]
    rfl
theorem part_at {left:Lit->Bool} {f:Int->Int} {x:Int} (hl:left (.int .i64 x)=true):part left f x=0:=by unfold part;rw[if_pos hl]
theorem part_end {left:Lit->Bool} {f:Int->Int} (hl:∀ kl,left kl=false) (x:Int):part left f x=f x:=by unfold part;rw[hl];rfl
theorem map_on {w w':World} {B b n:Nat} {D:DataW Unit} (h:w.ownsMap Tryz.prog 3 (plainElem Tryz.prog 3) b n D) (hb:Below B w w') (hlt:b<B):w'.ownsMap Tryz.prog 3 (plainElem Tryz.prog 3) b n D:=by
 obtain⟨es,clock,hh,rest⟩:=h
 exact⟨es,clock,(hb.block b hlt).trans hh,rest⟩
theorem has_at {D:DataW Unit} {x c:Int} (hat:∀ zd,D.atKey (.int .i64 x) zd=.lit (.int .i64 c)):Maps.has D (.int .i64 x)=true:=has_true_of_atKey hat
theorem plus23 (bp np bq nq : Nat) (Dp Dq : DataW Unit) (w : World) (hp : w.ownsMap Tryz.prog 3 (plainElem Tryz.prog 3) bp np Dp) (hq : w.ownsMap Tryz.prog 3 (plainElem Tryz.prog 3) bq nq Dq) (hnp : np ≤ 64) (hnq : nq ≤ 64)
    (hkq:KeysIn Dq 1000) (hbp:∀ x,-1000000<=coefOf Dp x/\coefOf Dp x<=1000000) (hbq:∀ x,-1000000<=coefOf Dq x/\coefOf Dq x<=1000000):
    Calls Tryz.prog 74 #[.map (some bp),.map (some bq)] w fun e w'=>∃ D:DataW Unit,e=.returned (.map (some w.heap.size))/\w'.ownsMap Tryz.prog 3 (plainElem Tryz.prog 3) w.heap.size 128 D/\(∀ x,coefOf D x=coefOf Dp x+coefOf Dq x)/\Below w.heap.size w w':=by
 have hmm:=fun n=>make46i n
 have hlp:=hp.lt
 have hlq:=hq.lt
 have hsp:=size_le hp
 have hsq:=size_le hq
 have HKQ:Hid _:=hkq
 have HBP:Hid _:=hbp
 have HBQ:Hid _:=hbq
 clear hkq hbp hbq
 have e1:(w.alloc (.map #[] 0)).heap.size=w.heap.size+1:=by simp
 go_enter Tryz.func74,Tryz.ntmps74
 go_wp2_with (first
  |(at_len;refine wpList_len_own _ rfl _ 72 rfl 3 3 Tryz.underlying72 _ bp np _ rfl hp ?_)
  |(at_len;refine wpList_len_own _ rfl _ 72 rfl 3 3 Tryz.underlying72 _ bq nq _ rfl hq ?_)
  |(at_range;refine wpList_range_own _ rfl _ 72 rfl 3 3 law3 Tryz.underlying72 _ bp np _ rfl (hp.alloc _) ?_;intro w0 hrg0 hg0 hs0))
 go_frame
 rw[e1]at hrg0 hs0 ⊢
 go_loopw [6, 7] (fun _ _ wr => ∃ (left : Lit → Bool) (cnt k : Nat) (D : DataW Unit), wr.ranges Tryz.prog 3 (plainElem Tryz.prog 3) bp (w.heap.size + 1) np Dp left cnt ∧ k + cnt ≤ np ∧
     wr.ownsMap Tryz.prog 3 (plainElem Tryz.prog 3) w.heap.size k D/\Hid (∀ x,coefOf D x=part left (coefOf Dp) x)/\Below w.heap.size w wr)
  (fun _ _ wr=>wr.rangeLeft bp (w.heap.size+1))
 case atStart=>
  exact⟨_,_,0,.map [],hrg0,by omega,(World.ownsMap_made _ _ _ _).kept hg0 (by simp),fun x=>by rw[part_start];exact coefOf_none rfl,((Below.refl _ _).alloc (Nat.le_refl _) _).grown hg0 (by simp) (fun j hj=>by cases hj)⟩
 case round=>
  clear hrg0 hg0 hs0
  rename World=>W1
  obtain⟨left,cnt,k,D,hrg,hcs,hout,hD,hnx⟩:=hrel
  go_wp2_with (first
   |(at_next;refine wpList_next_ranges_ii _ rfl _ rfl 3 3 .i64 .i64 law3 Tryz.underlying3 Tryz.underlying3 bp (w.heap.size+1) np _ _ _ rfl hrg ?_ ?_)
   |go_in)
  · intro hc0 hl0
    have hD2:Hid (∀ x,coefOf D x=coefOf Dp x):=fun x=>by rw[hD.out,part_end hl0]
    have hq2:=map_on hq hnx hlq
    have hlr:=hq2.lt
    have hsz:=hnx.size
    have hol:=hout.lt
    clear hD hc0 hl0
    go_wp2_with (first
     |(at_range;refine wpList_range_own _ rfl _ 72 rfl 3 3 law3 Tryz.underlying72 _ bq nq _ rfl hq2 ?_;intro w2 hrg2 hg2 hs2))
    go_frame
    go_loopw [8, 9] (fun _ _ ws => ∃ (left : Lit → Bool) (cnt k : Nat) (D : DataW Unit), ws.ranges Tryz.prog 3 (plainElem Tryz.prog 3) bq W1.heap.size nq Dq left cnt ∧ k + cnt ≤ np + nq ∧
        ws.ownsMap Tryz.prog 3 (plainElem Tryz.prog 3) w.heap.size k D/\Hid (∀ x,coefOf D x=coefOf Dp x+part left (coefOf Dq) x)/\Below w.heap.size w ws)
     (fun _ _ ws=>ws.rangeLeft bq W1.heap.size)
    case atStart=>
     exact⟨_,_,k,D,hrg2,by omega,hout.kept hg2 (by simp),fun x=>by rw[part_start,hD2.out];omega,hnx.grown hg2 hsz (fun j hj=>by cases hj)⟩
    case round=>
     clear hrg2 hg2 hs2 hout hnx hrg
     obtain⟨left,cnt,k,D,hrg,hcs,hout,hD,hnx⟩:=hrel
     go_wp2_with (first
      |(at_next;refine wpList_next_ranges_ii _ rfl _ rfl 3 3 .i64 .i64 law3 Tryz.underlying3 Tryz.underlying3 bq W1.heap.size nq _ _ _ rfl hrg ?_ ?_)
      |go_in)
     · intro hc0 hl0
       go_wp2
       go_ret
       exact⟨D,rfl,hout.mono (by omega),fun x=>by rw[hD.out,part_end hl0],hnx⟩
     · intro x c w1 cnt1 hwx hwc hlx hat hrg1 hlt hg1 hs1 hen
       have hout1:=hout.kept hg1 (by intro e;have:=Option.some.inj e;omega)
       have hnx1:Below w.heap.size w w1:=hnx.grown hg1 hnx.size (fun j hj=>by cases hj;exact hsz)
       have hx:=HKQ.out x (has_at hat)
       have hcq:=HBQ.out x
       have hcp:=HBP.out x
       rw[coefOf_at hat]at hcq
       have HX:Hid (coefOf Dq x=c/\coefOf D x=coefOf Dp x):=⟨coefOf_at hat,by rw[hD.out,part_at hlx];omega⟩
       have HL:Hid _:=hlx
       have hdm:=hout.isMap
       clear hat hlx
       go_wp2_with (first
        |(at_lookup;refine wpList_lookup_own_int _ rfl _ _ 72 rfl 3 3 .i64 law3 Tryz.underlying72 Tryz.underlying3 (zero3 _) w.heap.size k _ rfl hout1 _ _ rfl (keyOf_int_mk Tryz.underlying3 (WalkArith.wf_i64 (by omega))) ?_;intro c' hat hwc;refine Hid.out ?_))
       refine Lib.hid ?_
       have hc':coefOf D x=c':=coefOf_look hat
       have hbd : -1000000<=c'/\c'<=1000000:=by rw[<-hc',HX.out.2];exact hcp
       have HC':Hid (coefOf D x=c'):=hc'
       clear hat hwc hc'
       go_wp2_with (first
        |(at_mapUpdate;refine wpList_mapUpdate_own _ rfl _ _ _ 72 rfl 3 3 law3 Tryz.underlying72 _ w.heap.size k _ rfl hout1 (by unfold maxLen;omega) _ _ _ rfl rfl (keyOf_int_mk Tryz.underlying3 (WalkArith.wf_i64 (by omega))) _ [] (plainElem_int Tryz.underlying3 (WalkArith.wf_i64 (by omega))) ?_;intro w3 hown3 hg3;go_frame))
       have hrg3:=hrg1.kept hg3 (fun e=>by have:=Option.some.inj e;omega) (fun e=>by have:=Option.some.inj e;omega)
       go_roundw
       case rel=>
        refine⟨_,cnt1,k+1,_,hrg3,by omega,hown3,fun y=>?_,hnx1.grown hg3 hnx1.size (fun j hj=>by cases hj;exact Nat.le_refl _)⟩
        rw[coefOf_put hdm,part_step]
        by_cases hxy:x=y
        · rw[if_pos hxy,if_pos hxy,<-HC'.out,HX.out.1,HX.out.2,hxy]
        · rw[if_neg hxy,if_neg hxy,hD.out]
       case measure=>rw[hrg3.left_eq,hrg.left_eq];exact hlt
  · intro x c w1 cnt1 hwx hwc hlx hat hrg1 hlt hg1 hs1 hen
    have hout1:=hout.kept hg1 (by simp)
    have hnx1:Below w.heap.size w w1:=hnx.grown hg1 hnx.size (fun j hj=>by cases hj;omega)
    have HX:Hid (coefOf Dp x=c):=coefOf_at hat
    have HL:Hid _:=hlx
    have hdm:=hout.isMap
    clear hat hlx
    go_wp2_with (first
     |(at_mapUpdate;refine wpList_mapUpdate_own _ rfl _ _ _ 72 rfl 3 3 law3 Tryz.underlying72 _ w.heap.size k _ rfl hout1 (by unfold maxLen;omega) _ _ _ rfl rfl (keyOf_int_mk Tryz.underlying3 hwx) _ [] (plainElem_int Tryz.underlying3 hwc) ?_;intro w2 hout2 hg2;go_frame))
    have hrg2:=hrg1.kept hg2 (fun e=>by have:=Option.some.inj e;omega) (fun e=>by have:=Option.some.inj e;omega)
    go_roundw
    case rel=>
     refine⟨_,cnt1,k+1,_,hrg2,by omega,hout2,fun y=>?_,hnx1.grown hg2 hnx1.size (fun j hj=>by cases hj;exact Nat.le_refl _)⟩
     rw[coefOf_put hdm,part_step]
     by_cases hxy:x=y
     · rw[if_pos hxy,if_pos hxy,HX.out]
     · rw[if_neg hxy,if_neg hxy,hD.out]
    case measure=>rw[hrg2.left_eq,hrg.left_eq];exact hlt
end Go.Proofs.YtmnejkaihjpejaaGreatDoor.Poly
/- The walk of (poly.work).times: the product of two maps, as a new one. -/
namespace Go.Proofs.YtmnejkaihjpejaaGreatDoor.Poly
open Go.RowKit Go.Maps
def prodL:List (Int×Int)->(Int->Int)->Int->Int
 |[],_,_=>0
 |t::ts,g,y=>t.2*g (y-t.1)+prodL ts g y
theorem prodL_append (a b:List (Int×Int)) (g:Int->Int) (y:Int):prodL (a++b) g y=prodL a g y+prodL b g y:=by
 induction a with
 |nil=>simp[prodL]
 |cons t a ih=>simp only[List.cons_append,prodL,ih];omega
end Go.Proofs.YtmnejkaihjpejaaGreatDoor.Poly
/- The walks of poly.combined, poly.Add and poly.Mul. -/
namespace Go.Proofs.YtmnejkaihjpejaaGreatDoor.Poly
open Go.RowKit Go.Maps
set_option maxHeartbeats 1000000
set_option maxRecDepth 100000
theorem coef_bd {D:DataW Unit} {l:List (Int×Int)} (hm:mayB l=true) (h:∀ x,coefOf D x=coefL l x):∀ x,-1000000<=coefOf D x/\coefOf D x<=1000000:=by
 intro x
 rw[h]
 by_cases h0:coefL l x=0
 · rw[h0];omega
 · have:=(coefL_mem ((may_rising hm).imp fun h=>by omega) (may_nonzero hm) x (coefL l x)).2 ⟨rfl,h0⟩
   exact(may_coef hm _ this).2.2
theorem combined_add (v1 v2 : Value) (l1 l2 : List (Int × Int)) (w : World) (hm1 : mayB l1 = true) (hm2 : mayB l2 = true) (hP1 : Poly w w.heap.size v1 l1) (hP2 : Poly w w.heap.size v2 l2) :
    Calls Tryz.prog 96 #[v1,v2,.func (.func 74) #[] #[]] w fun e w'=>∃ v r,e=.returned (.tuple #[v,.int .i64 0])/\w'.ownsRow w.heap.size 63 2 v r.length (flat r)/\Canon r (fun x=>coefL l1 x+coefL l2 x)/\r.length<=128/\Below w.heap.size w w':=by
 have h164:=((may_iff l1).1 hm1).1
 have h264:=((may_iff l2).1 hm2).1
 have HP1:Hid (Poly w w.heap.size v1 l1):=hP1
 have HP2:Hid (Poly w w.heap.size v2 l2):=hP2
 have HL1:Hid (l1.length<=maxLen):=by show _<=_;unfold maxLen;omega
 have HL2:Hid (l2.length<=maxLen):=by show _<=_;unfold maxLen;omega
 have HM1:Hid (mayB l1=true):=hm1
 have HM2:Hid (mayB l2=true):=hm2
 clear hP1 hP2 hm1 hm2
 go_enter Tryz.func96,Tryz.ntmps96
 go_wp2_with (go_at_call 37;refine(mayBe_poly _ l1 _ HL1.out HP1.out).mono ?_;rw[HM1.out];rintro r w1 ⟨rfl,hb1⟩;refine Hid.out ?_)
 refine Lib.hid ?_
 go_wp2_with (go_at_call 37;refine(mayBe_poly _ l2 _ HL2.out (HP2.out.up hb1)).mono ?_;rw[HM2.out];rintro r w2 ⟨rfl,hb2⟩;refine Hid.out ?_)
 refine Lib.hid ?_
 have hB2:=hb1.trans (hb2.mono hb1.size)
 go_wp2_with (go_at_call 72;refine(collected_poly _ l1 _ HM1.out (HP1.out.up hB2)).mono ?_;rintro r w3 ⟨D1,rfl,hown1,hc1,hk1,hb3⟩;refine Hid.out ?_)
 refine Lib.hid ?_
 have hB3:=hB2.trans (hb3.mono hB2.size)
 go_wp2_with (go_at_call 72;refine(collected_poly _ l2 _ HM2.out (HP2.out.up hB3)).mono ?_;rintro r w4 ⟨D2,rfl,hown2,hc2,hk2,hb4⟩;refine Hid.out ?_)
 refine Lib.hid ?_
 have hB4:=hB3.trans (hb4.mono hB3.size)
 have hown1':=map_on hown1 hb4 hown1.lt
 go_wp2_with (go_at_call 74;refine(plus23 _ _ _ _ D1 D2 _ hown1' hown2 h164 h264 hk2 (coef_bd HM1.out hc1) (coef_bd HM2.out hc2)).mono ?_;rintro r w5 ⟨D,rfl,hown,hc,hb5⟩;refine Hid.out ?_)
 refine Lib.hid ?_
 have hB5:=hB4.trans (hb5.mono hB4.size)
 have hs:=size_le hown
 have HC:Hid (∀ x,coefOf D x=coefL l1 x+coefL l2 x):=fun x=>by rw[hc,hc1,hc2]
 clear hc hc1 hc2 hk1 hk2
 go_wp2_with (go_at_call 33;refine(terms34 _ _ D _ hown (by omega)).mono ?_;rintro r w6 ⟨v,m,rfl,hrow,hcan,hml,hb6⟩)
 go_ret2
 exact⟨v,m,rfl,own_lower hrow hB5.size,canon_congr hcan HC.out,by omega,hB5.trans (hb6.mono hB5.size)⟩
theorem add_yes (v1 v2 : Value) (l1 l2 : List (Int × Int)) (w : World) (hm1 : mayB l1 = true) (hm2 : mayB l2 = true) (hP1 : Poly w w.heap.size v1 l1) (hP2 : Poly w w.heap.size v2 l2) :
    Calls Tryz.prog 82 #[v1,v2] w fun e w'=>∃ v r,e=.returned (.tuple #[v,.int .i64 0])/\w'.ownsRow w.heap.size 63 2 v r.length (flat r)/\Canon r (fun x=>coefL l1 x+coefL l2 x)/\r.length<=128/\Below w.heap.size w w':=by
 have HP1:Hid (Poly w w.heap.size v1 l1):=hP1
 have HP2:Hid (Poly w w.heap.size v2 l2):=hP2
 have HM1:Hid (mayB l1=true):=hm1
 have HM2:Hid (mayB l2=true):=hm2
 clear hP1 hP2 hm1 hm2
 go_enter Tryz.func82,Tryz.ntmps82
 go_wp2_with (go_at_call 96;refine(combined_add v1 v2 l1 l2 w HM1.out HM2.out HP1.out HP2.out).mono ?_;rintro r w1 ⟨v,m,rfl,hrow,hcan,hml,hb1⟩)
 go_ret2
 exact⟨v,m,rfl,hrow,hcan,hml,hb1⟩
end Go.Proofs.YtmnejkaihjpejaaGreatDoor.Poly
