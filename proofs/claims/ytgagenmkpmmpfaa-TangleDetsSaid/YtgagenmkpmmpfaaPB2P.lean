/- Several texts of the proof, one behind the other. -/
import Derived.Test.YtgagenmkpmmpfaaPA10P
import Derived.Test.YtgagenmkpmmpfaaBK0P
/- The walk of (poly.work).plus: the sum of two maps, as a new one. -/
namespace Go.Proofs.Ytgagenmkpmmpfaa.Poly
open Go.RowKit Go.Maps
set_option maxHeartbeats 4000000
set_option maxRecDepth 100000
theorem make46i (n:Int) (w:World):(Instr.makeMap 118 (some (.int .i64 n))).run Try.prog w=.ok (.map (some w.heap.size)) (w.alloc (.map #[] 0)):=rfl
def part (left:Lit->Bool) (f:Int->Int) (x:Int):Int:=if left (.int .i64 x) then 0 else f x
theorem part_start (D:DataW Unit) (x:Int):part (Maps.has D) (coefOf D) x=0:=by
 unfold part
 split
 · rfl
 · rename_i h
   exact coefOf_none (by simpa using h)
theorem part_step (left:Lit->Bool) (f:Int->Int) (x y:Int):part (fun z=>left z&&!z.sameKey (.int .i64 x)) f y=if x=y then f x else part left f y:=by
 unfold part
 by_cases h:x=y
 · subst h
   have:(left (.int .i64 x)&&!(Lit.int .i64 x).sameKey (.int .i64 x))=false:=(strike_int left x x).2 (Or.inr rfl)
   simp only[this]
   simp
 · rw[if_neg h]
   cases hy:left (.int .i64 y) with
   |false=>
    have:(left (.int .i64 y)&&!(Lit.int .i64 y).sameKey (.int .i64 x))=false:=(strike_int left x y).2 (Or.inl hy)
    simp only[this]
   |true=>
    have:(left (.int .i64 y)&&!(Lit.int .i64 y).sameKey (.int .i64 x))=true:=by
     cases hh:(left (.int .i64 y)&&!(Lit.int .i64 y).sameKey (.int .i64 x)) with
     |true=>rfl
     |false=>
      rcases(strike_int left x y).1 hh with h1|h1
      · rw[hy]at h1;cases h1
      · exact absurd h1.symm h
    rw[if_pos this]
    rfl
theorem part_at {left:Lit->Bool} {f:Int->Int} {x:Int} (hl:left (.int .i64 x)=true):part left f x=0:=by unfold part;rw[if_pos hl]
theorem part_end {left:Lit->Bool} {f:Int->Int} (hl:∀ kl,left kl=false) (x:Int):part left f x=f x:=by unfold part;rw[hl];rfl
theorem map_on {w w':World} {B b n:Nat} {D:DataW Unit} (h:w.ownsMap Try.prog 3 (plainElem Try.prog 3) b n D) (hb:Below B w w') (hlt:b<B):w'.ownsMap Try.prog 3 (plainElem Try.prog 3) b n D:=by
 obtain⟨es,clock,hh,rest⟩:=h
 exact⟨es,clock,(hb.block b hlt).trans hh,rest⟩
theorem has_at {D:DataW Unit} {x c:Int} (hat:∀ zd,D.atKey (.int .i64 x) zd=.lit (.int .i64 c)):Maps.has D (.int .i64 x)=true:=has_true_of_atKey hat
theorem plus23 (bp np bq nq : Nat) (Dp Dq : DataW Unit) (w : World) (hp : w.ownsMap Try.prog 3 (plainElem Try.prog 3) bp np Dp) (hq : w.ownsMap Try.prog 3 (plainElem Try.prog 3) bq nq Dq) (hnp : np ≤ 64) (hnq : nq ≤ 64)
    (hkq:KeysIn Dq 1000) (hbp:∀ x,-1000000<=coefOf Dp x/\coefOf Dp x<=1000000) (hbq:∀ x,-1000000<=coefOf Dq x/\coefOf Dq x<=1000000):
    Calls Try.prog 79 #[.map (some bp),.map (some bq)] w fun e w'=>∃ D:DataW Unit,e=.returned (.map (some w.heap.size))/\w'.ownsMap Try.prog 3 (plainElem Try.prog 3) w.heap.size 128 D/\(∀ x,coefOf D x=coefOf Dp x+coefOf Dq x)/\Below w.heap.size w w':=by
 have hmm:=fun n=>make46i n
 have hlp:=hp.lt
 have hlq:=hq.lt
 have hsp:=size_le hp
 have hsq:=size_le hq
 have HKQ:Hid _:=hkq
 have HBP:Hid _:=hbp
 have HBQ:Hid _:=hbq
 clear hkq hbp hbq
 have e1:(w.alloc (.map #[] 0)).heap.size=w.heap.size+1:=by simp
 go_enter Try.func79,Try.ntmps79
 go_wp2_with (first
  |(at_len;refine wpList_len_own _ rfl _ 118 rfl 3 3 Try.underlying118 _ bp np _ rfl hp ?_)
  |(at_len;refine wpList_len_own _ rfl _ 118 rfl 3 3 Try.underlying118 _ bq nq _ rfl hq ?_)
  |(at_range;refine wpList_range_own _ rfl _ 118 rfl 3 3 law3 Try.underlying118 _ bp np _ rfl (hp.alloc _) ?_;intro w0 hrg0 hg0 hs0))
 go_frame
 rw[e1]at hrg0 hs0 ⊢
 go_loopw [6, 7] (fun _ _ wr => ∃ (left : Lit → Bool) (cnt k : Nat) (D : DataW Unit), wr.ranges Try.prog 3 (plainElem Try.prog 3) bp (w.heap.size + 1) np Dp left cnt ∧ k + cnt ≤ np ∧
     wr.ownsMap Try.prog 3 (plainElem Try.prog 3) w.heap.size k D/\Hid (∀ x,coefOf D x=part left (coefOf Dp) x)/\Below w.heap.size w wr)
  (fun _ _ wr=>wr.rangeLeft bp (w.heap.size+1))
 case atStart=>
  exact⟨_,_,0,.map [],hrg0,by omega,(World.ownsMap_made _ _ _ _).kept hg0 (by simp),fun x=>by rw[part_start];exact coefOf_none rfl,((Below.refl _ _).alloc (Nat.le_refl _) _).grown hg0 (by simp) (fun j hj=>by cases hj)⟩
 case round=>
  clear hrg0 hg0 hs0
  rename World=>W1
  obtain⟨left,cnt,k,D,hrg,hcs,hout,hD,hnx⟩:=hrel
  go_wp2_with (first
   |(at_next;refine wpList_next_ranges_ii _ rfl _ rfl 3 3 .i64 .i64 law3 Try.underlying3 Try.underlying3 bp (w.heap.size+1) np _ _ _ rfl hrg ?_ ?_)
   |go_in)
  · intro hc0 hl0
    have hD2:Hid (∀ x,coefOf D x=coefOf Dp x):=fun x=>by rw[hD.out,part_end hl0]
    have hq2:=map_on hq hnx hlq
    have hlr:=hq2.lt
    have hsz:=hnx.size
    have hol:=hout.lt
    clear hD hc0 hl0
    go_wp2_with (first
     |(at_range;refine wpList_range_own _ rfl _ 118 rfl 3 3 law3 Try.underlying118 _ bq nq _ rfl hq2 ?_;intro w2 hrg2 hg2 hs2))
    go_frame
    go_loopw [8, 9] (fun _ _ ws => ∃ (left : Lit → Bool) (cnt k : Nat) (D : DataW Unit), ws.ranges Try.prog 3 (plainElem Try.prog 3) bq W1.heap.size nq Dq left cnt ∧ k + cnt ≤ np + nq ∧
        ws.ownsMap Try.prog 3 (plainElem Try.prog 3) w.heap.size k D/\Hid (∀ x,coefOf D x=coefOf Dp x+part left (coefOf Dq) x)/\Below w.heap.size w ws)
     (fun _ _ ws=>ws.rangeLeft bq W1.heap.size)
    case atStart=>
     exact⟨_,_,k,D,hrg2,by omega,hout.kept hg2 (by simp),fun x=>by rw[part_start,hD2.out];omega,hnx.grown hg2 hsz (fun j hj=>by cases hj)⟩
    case round=>
     clear hrg2 hg2 hs2 hout hnx hrg
     obtain⟨left,cnt,k,D,hrg,hcs,hout,hD,hnx⟩:=hrel
     go_wp2_with (first
      |(at_next;refine wpList_next_ranges_ii _ rfl _ rfl 3 3 .i64 .i64 law3 Try.underlying3 Try.underlying3 bq W1.heap.size nq _ _ _ rfl hrg ?_ ?_)
      |go_in)
     · intro hc0 hl0
       go_wp2
       go_ret
       exact⟨D,rfl,hout.mono (by omega),fun x=>by rw[hD.out,part_end hl0],hnx⟩
     · intro x c w1 cnt1 hwx hwc hlx hat hrg1 hlt hg1 hs1 hen
       have hout1:=hout.kept hg1 (by intro e;have:=Option.some.inj e;omega)
       have hnx1:Below w.heap.size w w1:=hnx.grown hg1 hnx.size (fun j hj=>by cases hj;exact hsz)
       have hx:=HKQ.out x (has_at hat)
       have hcq:=HBQ.out x
       have hcp:=HBP.out x
       rw[coefOf_at hat]at hcq
       have HX:Hid (coefOf Dq x=c/\coefOf D x=coefOf Dp x):=⟨coefOf_at hat,by rw[hD.out,part_at hlx];omega⟩
       have HL:Hid _:=hlx
       have hdm:=hout.isMap
       clear hat hlx
       go_wp2_with (first
        |(at_lookup;refine wpList_lookup_own_int _ rfl _ _ 118 rfl 3 3 .i64 law3 Try.underlying118 Try.underlying3 (zero3 _) w.heap.size k _ rfl hout1 _ _ rfl (keyOf_int_mk Try.underlying3 (WalkArith.wf_i64 (by omega))) ?_;intro c' hat hwc;refine Hid.out ?_))
       refine Lib.hid ?_
       have hc':coefOf D x=c':=coefOf_look hat
       have hbd : -1000000<=c'/\c'<=1000000:=by rw[<-hc',HX.out.2];exact hcp
       have HC':Hid (coefOf D x=c'):=hc'
       clear hat hwc hc'
       go_wp2_with (first
        |(at_mapUpdate;refine wpList_mapUpdate_own _ rfl _ _ _ 118 rfl 3 3 law3 Try.underlying118 _ w.heap.size k _ rfl hout1 (by unfold maxLen;omega) _ _ _ rfl rfl (keyOf_int_mk Try.underlying3 (WalkArith.wf_i64 (by omega))) _ [] (plainElem_int Try.underlying3 (WalkArith.wf_i64 (by omega))) ?_;intro w3 hown3 hg3;go_frame))
       have hrg3:=hrg1.kept hg3 (fun e=>by have:=Option.some.inj e;omega) (fun e=>by have:=Option.some.inj e;omega)
       go_roundw
       case rel=>
        refine⟨_,cnt1,k+1,_,hrg3,by omega,hown3,fun y=>?_,hnx1.grown hg3 hnx1.size (fun j hj=>by cases hj;exact Nat.le_refl _)⟩
        rw[coefOf_put hdm,part_step]
        by_cases hxy:x=y
        · rw[if_pos hxy,if_pos hxy,<-HC'.out,HX.out.1,HX.out.2,hxy]
        · rw[if_neg hxy,if_neg hxy,hD.out]
       case measure=>rw[hrg3.left_eq,hrg.left_eq];exact hlt
  · intro x c w1 cnt1 hwx hwc hlx hat hrg1 hlt hg1 hs1 hen
    have hout1:=hout.kept hg1 (by simp)
    have hnx1:Below w.heap.size w w1:=hnx.grown hg1 hnx.size (fun j hj=>by cases hj;omega)
    have HX:Hid (coefOf Dp x=c):=coefOf_at hat
    have HL:Hid _:=hlx
    have hdm:=hout.isMap
    clear hat hlx
    go_wp2_with (first
     |(at_mapUpdate;refine wpList_mapUpdate_own _ rfl _ _ _ 118 rfl 3 3 law3 Try.underlying118 _ w.heap.size k _ rfl hout1 (by unfold maxLen;omega) _ _ _ rfl rfl (keyOf_int_mk Try.underlying3 hwx) _ [] (plainElem_int Try.underlying3 hwc) ?_;intro w2 hout2 hg2;go_frame))
    have hrg2:=hrg1.kept hg2 (fun e=>by have:=Option.some.inj e;omega) (fun e=>by have:=Option.some.inj e;omega)
    go_roundw
    case rel=>
     refine⟨_,cnt1,k+1,_,hrg2,by omega,hout2,fun y=>?_,hnx1.grown hg2 hnx1.size (fun j hj=>by cases hj;exact Nat.le_refl _)⟩
     rw[coefOf_put hdm,part_step]
     by_cases hxy:x=y
     · rw[if_pos hxy,if_pos hxy,HX.out]
     · rw[if_neg hxy,if_neg hxy,hD.out]
    case measure=>rw[hrg2.left_eq,hrg.left_eq];exact hlt
end Go.Proofs.Ytgagenmkpmmpfaa.Poly
/- The walk of (poly.work).times: the product of two maps, as a new one. -/
namespace Go.Proofs.Ytgagenmkpmmpfaa.Poly
open Go.RowKit Go.Maps
def prodL:List (Int×Int)->(Int->Int)->Int->Int
 |[],_,_=>0
 |t::ts,g,y=>t.2*g (y-t.1)+prodL ts g y
theorem prodL_append (a b:List (Int×Int)) (g:Int->Int) (y:Int):prodL (a++b) g y=prodL a g y+prodL b g y:=by
 induction a with
 |nil=>simp[prodL]
 |cons t a ih=>simp only[List.cons_append,prodL,ih];omega
end Go.Proofs.Ytgagenmkpmmpfaa.Poly
/- Determinants of tables of polynomials, as functions from exponents to coefficients: along the first row and along the last row they are the same. Plain mathematics: no program is named here. -/
namespace Go.Proofs.Ytgagenmkpmmpfaa.Poly
def sgn:Nat->Int
 |0=>1
 |n+1 => -sgn n
theorem prodL_add (a:List (Int×Int)) (f g:Int->Int) (y:Int):prodL a (fun x=>f x+g x) y=prodL a f y+prodL a g y:=by
 induction a with
 |nil=>rfl
 |cons t a ih=>simp only[prodL,ih,Int.mul_add];omega
theorem prodL_mul (a:List (Int×Int)) (k:Int) (g:Int->Int) (y:Int):prodL a (fun x=>k*g x) y=k*prodL a g y:=by
 induction a with
 |nil=>simp[prodL]
 |cons t a ih=>simp only[prodL,ih,Int.mul_add];rw[Int.mul_left_comm]
theorem prodL_sub (a:List (Int×Int)) (f g:Int->Int) (y:Int):prodL a (fun x=>f x-g x) y=prodL a f y-prodL a g y:=by
 induction a with
 |nil=>rfl
 |cons t a ih=>simp only[prodL,ih,Int.mul_sub];omega
theorem prodL_zero (a:List (Int×Int)) (y:Int):prodL a (fun _=>0) y=0:=by
 induction a with
 |nil=>rfl
 |cons t a ih=>simp only[prodL,ih,Int.mul_zero];rfl
theorem prodL_shift (b:List (Int×Int)) (g:Int->Int) (e c y:Int):prodL b (fun z=>c*g (z-e)) y=c*prodL b g (y-e):=by
 induction b with
 |nil=>simp[prodL]
 |cons s b ih=>
  simp only[prodL,ih,Int.mul_add]
  have h:y-s.1-e=y-e-s.1:=by omega
  rw[h,Int.mul_left_comm]
theorem prodL_swap (a b:List (Int×Int)) (g:Int->Int) (y:Int):prodL a (prodL b g) y=prodL b (prodL a g) y:=by
 induction a with
 |nil=>exact(prodL_zero b y).symm
 |cons t a ih=>
  have h:prodL b (prodL (t::a) g) y=prodL b (fun z=>t.2*g (z-t.1)) y+prodL b (prodL a g) y:=prodL_add b _ _ y
  rw[h,prodL_shift]
  simp only[prodL,ih]
def rowF (a:Nat->List (Int×Int)):List Nat->(List Nat->Int->Int)->Int->Int
 |[],_=>fun _=>0
 |c::cs,h=>fun y=>prodL (a c) (h cs) y-rowF a cs (fun rest=>h (c::rest)) y
def rowE (b:Nat->List (Int×Int)):List Nat->(List Nat->Int->Int)->Int->Int
 |[],_=>fun _=>0
 |c::cs,h=>fun y=>sgn cs.length*prodL (b c) (h cs) y+rowE b cs (fun rest=>h (c::rest)) y
theorem rowF_congr (a:Nat->List (Int×Int)) (cs:List Nat) (h h':List Nat->Int->Int) (e:∀ rest,rest.length+1=cs.length->h rest=h' rest):rowF a cs h=rowF a cs h':=by
 induction cs generalizing h h' with
 |nil=>rfl
 |cons c cs ih=>
  have h1:=ih (fun rest=>h (c::rest)) (fun rest=>h' (c::rest)) fun rest hr=>e (c::rest) (by simp;omega)
  funext y
  simp only[rowF,h1,e cs (by simp)]
theorem rowE_congr (a:Nat->List (Int×Int)) (cs:List Nat) (h h':List Nat->Int->Int) (e:∀ rest,rest.length+1=cs.length->h rest=h' rest):rowE a cs h=rowE a cs h':=by
 induction cs generalizing h h' with
 |nil=>rfl
 |cons c cs ih=>
  have h1:=ih (fun rest=>h (c::rest)) (fun rest=>h' (c::rest)) fun rest hr=>e (c::rest) (by simp;omega)
  funext y
  simp only[rowE,h1,e cs (by simp)]
theorem rowF_add (a:Nat->List (Int×Int)) (cs:List Nat) (h h':List Nat->Int->Int) (y:Int):rowF a cs (fun rest z=>h rest z+h' rest z) y=rowF a cs h y+rowF a cs h' y:=by
 induction cs generalizing h h' with
 |nil=>rfl
 |cons c cs ih=>
  simp only[rowF,prodL_add,ih (fun rest=>h (c::rest)) (fun rest=>h' (c::rest))]
  omega
theorem rowE_sub (a:Nat->List (Int×Int)) (cs:List Nat) (h h':List Nat->Int->Int) (y:Int):rowE a cs (fun rest z=>h rest z-h' rest z) y=rowE a cs h y-rowE a cs h' y:=by
 induction cs generalizing h h' with
 |nil=>rfl
 |cons c cs ih=>
  simp only[rowE,prodL_sub,ih (fun rest=>h (c::rest)) (fun rest=>h' (c::rest)),Int.mul_sub]
  omega
theorem rowF_act (a:Nat->List (Int×Int)) (p:List (Int×Int)) (cs:List Nat) (h:List Nat->Int->Int) (y:Int):rowF a cs (fun rest=>prodL p (h rest)) y=prodL p (rowF a cs h) y:=by
 induction cs generalizing h y with
 |nil=>exact(prodL_zero p y).symm
 |cons c cs ih=>
  have e:prodL p (rowF a (c::cs) h) y=prodL p (prodL (a c) (h cs)) y-prodL p (rowF a cs fun rest=>h (c::rest)) y:=prodL_sub p _ _ y
  rw[e,<-ih,prodL_swap]
  rfl
theorem rowE_act (b:Nat->List (Int×Int)) (p:List (Int×Int)) (cs:List Nat) (h:List Nat->Int->Int) (y:Int):rowE b cs (fun rest=>prodL p (h rest)) y=prodL p (rowE b cs h) y:=by
 induction cs generalizing h y with
 |nil=>exact(prodL_zero p y).symm
 |cons c cs ih=>
  have e:prodL p (rowE b (c::cs) h) y=prodL p (fun z=>sgn cs.length*prodL (b c) (h cs) z) y+prodL p (rowE b cs fun rest=>h (c::rest)) y:=prodL_add p _ _ y
  rw[e,<-ih,prodL_mul,prodL_swap]
  rfl
theorem rowF_neg (a:Nat->List (Int×Int)) (cs:List Nat) (h:List Nat->Int->Int) (y:Int):rowF a cs (fun rest z => -h rest z) y = -rowF a cs h y:=by
 induction cs generalizing h y with
 |nil=>rfl
 |cons c cs ih=>
  have e:prodL (a c) (fun z => -h cs z) y = -prodL (a c) (h cs) y:=by
   have:=prodL_mul (a c) (-1) (h cs) y
   simp only[Int.neg_mul,Int.one_mul]at this
   exact this
  simp only[rowF,ih (fun rest=>h (c::rest)),e]
  omega
theorem rowF_sgn (a:Nat->List (Int×Int)) (cs:List Nat) (g:List Nat->Int->Int) (y:Int):rowF a cs (fun rest z=>sgn rest.length*g rest z) y = -(sgn cs.length*rowF a cs g y):=by
 induction cs generalizing g y with
 |nil=>simp[rowF]
 |cons c cs ih=>
  have e1:rowF a cs (fun rest z=>sgn (c::rest).length*g (c::rest) z) y=rowF a cs (fun rest z => -(sgn rest.length*g (c::rest) z)) y:=by
   congr 1
   congr 1
   funext rest z
   simp only[List.length_cons,sgn,Int.neg_mul]
  have e2:=rowF_neg a cs (fun rest z=>sgn rest.length*g (c::rest) z) y
  have e3:=ih (fun rest=>g (c::rest)) y
  have e0:rowF a (c::cs) (fun rest z=>sgn rest.length*g rest z) y=prodL (a c) (fun z=>sgn cs.length*g cs z) y-rowF a cs (fun rest z=>sgn (c::rest).length*g (c::rest) z) y:=rfl
  rw[e0,e1,e2,e3,prodL_mul]
  simp only[rowF,List.length_cons,sgn,Int.neg_mul,Int.mul_sub]
  omega
theorem row_swap (a b:Nat->List (Int×Int)) (cs:List Nat) (h:List Nat->Int->Int) (y:Int):rowF a cs (fun rest=>rowE b rest h) y=rowE b cs (fun rest=>rowF a rest h) y:=by
 induction cs generalizing h y with
 |nil=>rfl
 |cons c cs ih=>
  have l1:rowF a (c::cs) (fun rest=>rowE b rest h) y=prodL (a c) (rowE b cs h) y-rowF a cs (fun rest=>rowE b (c::rest) h) y:=rfl
  have l2:rowF a cs (fun rest=>rowE b (c::rest) h) y=rowF a cs (fun rest z=>sgn rest.length*prodL (b c) (h rest) z) y+rowF a cs (fun rest=>rowE b rest (fun r=>h (c::r))) y:=rowF_add a cs _ _ y
  have l3:=rowF_sgn a cs (fun rest=>prodL (b c) (h rest)) y
  have l4:=rowF_act a (b c) cs h y
  have r1:rowE b (c::cs) (fun rest=>rowF a rest h) y=sgn cs.length*prodL (b c) (rowF a cs h) y+rowE b cs (fun rest=>rowF a (c::rest) h) y:=rfl
  have r2:rowE b cs (fun rest=>rowF a (c::rest) h) y=rowE b cs (fun rest=>prodL (a c) (h rest)) y-rowE b cs (fun rest=>rowF a rest (fun r=>h (c::r))) y:=rowE_sub b cs _ _ y
  have r3:=rowE_act b (a c) cs h y
  have i:=ih (fun r=>h (c::r)) y
  rw[l1,l2,l3,l4,r1,r2,r3,i]
  omega
def oneF (y:Int):Int:=if y=0 then 1 else 0
def detF:List (Nat->List (Int×Int))->List Nat->Int->Int
 |[],_=>oneF
 |r::rs,cs=>rowF r cs (detF rs)
def detE:List (Nat->List (Int×Int))->List Nat->Int->Int
 |[],_=>oneF
 |r::rs,cs=>rowE r cs (detE rs)
theorem row_one (r:Nat->List (Int×Int)) (cs:List Nat) (h:cs.length=1) (g:List Nat->Int->Int):rowF r cs g=rowE r cs g:=by
 match cs,h with
 |[c],_=>
  funext y
  simp[rowF,rowE,sgn]
theorem det_same:∀ (n:Nat) (rows:List (Nat->List (Int×Int))) (cs:List Nat),rows.length=n->cs.length=n->detF rows cs=detE rows.reverse cs:=by
 intro n
 induction n using Nat.strongRecOn with
 |ind n ih=>
  intro rows cs hr hc
  match rows,hr with
  |[],_=>rfl
  |[r],hr=>
   simp only[List.length_cons,List.length_nil]at hr
   exact row_one r cs (by omega) _
  |r::r'::rs,hr=>
   simp only[List.length_cons]at hr
   obtain⟨mid,s,hms⟩:∃ mid s,r'::rs=mid++[s]:=⟨(r'::rs).dropLast,(r'::rs).getLast (by simp),(List.dropLast_concat_getLast (by simp)).symm⟩
   have hml:mid.length+1=rs.length+1:=by
    have:=congrArg List.length hms
    simp at this
    omega
   have h1:detF (r::r'::rs) cs=rowF r cs (fun rest=>rowE s rest (detE mid.reverse)):=by
    refine rowF_congr r cs _ _ fun rest hrest=>?_
    rw[ih (rs.length+1) (by omega) (r'::rs) rest (by simp) (by omega),hms]
    simp[detE]
   have h2:detE (r::r'::rs).reverse cs=rowE s cs (fun rest=>rowF r rest (detE mid.reverse)):=by
    have e:(r::r'::rs).reverse=s::(r::mid).reverse:=by rw[hms];simp
    rw[e]
    refine rowE_congr s cs _ _ fun rest hrest=>?_
    rw[<-ih (mid.length+1) (by omega) (r::mid) rest (by simp) (by omega)]
    refine rowF_congr r rest _ _ fun rest' hrest'=>?_
    exact ih mid.length (by omega) mid rest' rfl (by omega)
   rw[h1,h2]
   funext y
   exact row_swap r s cs _ y
end Go.Proofs.Ytgagenmkpmmpfaa.Poly
/- The walks of poly.combined, poly.Add and poly.Mul. -/
namespace Go.Proofs.Ytgagenmkpmmpfaa.Poly
open Go.RowKit Go.Maps
set_option maxHeartbeats 1000000
set_option maxRecDepth 100000
theorem coef_bd {D:DataW Unit} {l:List (Int×Int)} (hm:mayB l=true) (h:∀ x,coefOf D x=coefL l x):∀ x,-1000000<=coefOf D x/\coefOf D x<=1000000:=by
 intro x
 rw[h]
 by_cases h0:coefL l x=0
 · rw[h0];omega
 · have:=(coefL_mem ((may_rising hm).imp fun h=>by omega) (may_nonzero hm) x (coefL l x)).2 ⟨rfl,h0⟩
   exact(may_coef hm _ this).2.2
theorem combined_add (v1 v2 : Value) (l1 l2 : List (Int × Int)) (w : World) (hm1 : mayB l1 = true) (hm2 : mayB l2 = true) (hP1 : Poly w w.heap.size v1 l1) (hP2 : Poly w w.heap.size v2 l2) :
    Calls Try.prog 78 #[v1,v2,.func (.func 79) #[] #[]] w fun e w'=>∃ v r,e=.returned (.tuple #[v,.int .i64 0])/\w'.ownsRow w.heap.size 95 2 v r.length (flat r)/\Canon r (fun x=>coefL l1 x+coefL l2 x)/\r.length<=128/\Below w.heap.size w w':=by
 have h164:=((may_iff l1).1 hm1).1
 have h264:=((may_iff l2).1 hm2).1
 have HP1:Hid (Poly w w.heap.size v1 l1):=hP1
 have HP2:Hid (Poly w w.heap.size v2 l2):=hP2
 have HL1:Hid (l1.length<=maxLen):=by show _<=_;unfold maxLen;omega
 have HL2:Hid (l2.length<=maxLen):=by show _<=_;unfold maxLen;omega
 have HM1:Hid (mayB l1=true):=hm1
 have HM2:Hid (mayB l2=true):=hm2
 clear hP1 hP2 hm1 hm2
 go_enter Try.func78,Try.ntmps78
 go_wp2_with (go_at_call 39;refine(mayBe_poly _ l1 _ HL1.out HP1.out).mono ?_;rw[HM1.out];rintro r w1 ⟨rfl,hb1⟩;refine Hid.out ?_)
 refine Lib.hid ?_
 go_wp2_with (go_at_call 39;refine(mayBe_poly _ l2 _ HL2.out (HP2.out.up hb1)).mono ?_;rw[HM2.out];rintro r w2 ⟨rfl,hb2⟩;refine Hid.out ?_)
 refine Lib.hid ?_
 have hB2:=hb1.trans (hb2.mono hb1.size)
 go_wp2_with (go_at_call 90;refine(collected_poly _ l1 _ HM1.out (HP1.out.up hB2)).mono ?_;rintro r w3 ⟨D1,rfl,hown1,hc1,hk1,hb3⟩;refine Hid.out ?_)
 refine Lib.hid ?_
 have hB3:=hB2.trans (hb3.mono hB2.size)
 go_wp2_with (go_at_call 90;refine(collected_poly _ l2 _ HM2.out (HP2.out.up hB3)).mono ?_;rintro r w4 ⟨D2,rfl,hown2,hc2,hk2,hb4⟩;refine Hid.out ?_)
 refine Lib.hid ?_
 have hB4:=hB3.trans (hb4.mono hB3.size)
 have hown1':=map_on hown1 hb4 hown1.lt
 go_wp2_with (go_at_call 79;refine(plus23 _ _ _ _ D1 D2 _ hown1' hown2 h164 h264 hk2 (coef_bd HM1.out hc1) (coef_bd HM2.out hc2)).mono ?_;rintro r w5 ⟨D,rfl,hown,hc,hb5⟩;refine Hid.out ?_)
 refine Lib.hid ?_
 have hB5:=hB4.trans (hb5.mono hB4.size)
 have hs:=size_le hown
 have HC:Hid (∀ x,coefOf D x=coefL l1 x+coefL l2 x):=fun x=>by rw[hc,hc1,hc2]
 clear hc hc1 hc2 hk1 hk2
 go_wp2_with (go_at_call 57;refine(terms34 _ _ D _ hown (by omega)).mono ?_;rintro r w6 ⟨v,m,rfl,hrow,hcan,hml,hb6⟩)
 go_ret2
 exact⟨v,m,rfl,own_lower hrow hB5.size,canon_congr hcan HC.out,by omega,hB5.trans (hb6.mono hB5.size)⟩
theorem add_yes (v1 v2 : Value) (l1 l2 : List (Int × Int)) (w : World) (hm1 : mayB l1 = true) (hm2 : mayB l2 = true) (hP1 : Poly w w.heap.size v1 l1) (hP2 : Poly w w.heap.size v2 l2) :
    Calls Try.prog 72 #[v1,v2] w fun e w'=>∃ v r,e=.returned (.tuple #[v,.int .i64 0])/\w'.ownsRow w.heap.size 95 2 v r.length (flat r)/\Canon r (fun x=>coefL l1 x+coefL l2 x)/\r.length<=128/\Below w.heap.size w w':=by
 have HP1:Hid (Poly w w.heap.size v1 l1):=hP1
 have HP2:Hid (Poly w w.heap.size v2 l2):=hP2
 have HM1:Hid (mayB l1=true):=hm1
 have HM2:Hid (mayB l2=true):=hm2
 clear hP1 hP2 hm1 hm2
 go_enter Try.func72,Try.ntmps72
 go_wp2_with (go_at_call 78;refine(combined_add v1 v2 l1 l2 w HM1.out HM2.out HP1.out HP2.out).mono ?_;rintro r w1 ⟨v,m,rfl,hrow,hcan,hml,hb1⟩)
 go_ret2
 exact⟨v,m,rfl,hrow,hcan,hml,hb1⟩
end Go.Proofs.Ytgagenmkpmmpfaa.Poly
/- The walks of poly.size, knotworkref.abs and poly.small: the sum of the coefficients' sizes. -/
namespace Go.Proofs.Ytgagenmkpmmpfaa.Poly
open Go.RowKit Go.Maps
def absI (c:Int):Int:=if c<0 then -c else c
def sizeTo (l:List (Int×Int)):Nat->Int
 |0=>0
 |k+1=>sizeTo l k+absI (l.getD k (0,0)).2
def sizeL (l:List (Int×Int)):Int:=sizeTo l l.length
theorem sizeTo_le {l:List (Int×Int)} (hm:mayB l=true) (k:Nat) (hk:k<=l.length):0<=sizeTo l k/\sizeTo l k<=1000000*(k:Int):=by
 induction k with
 |zero=>simp[sizeTo]
 |succ k ih=>
  have h:=(okB_iff l k).1 (((may_iff l).1 hm).2 k (by omega))
  have:=ih (by omega)
  rw[sizeTo]
  unfold absI
  split<;>omega
end Go.Proofs.Ytgagenmkpmmpfaa.Poly
/- The walk of knotworkref.Put: a term put into a list in form. -/
namespace Go.Proofs.Ytgagenmkpmmpfaa.Poly
open Go.RowKit Go.Maps
def PolyC (w:World) (B:Nat) (v:Value) (l:List (Int×Int)):Prop:=Poly w B v l/\∃ a n c,v=.slice a n c/\n<=c/\c<=maxLen
theorem PolyC.ofRow {w:World} {base:Nat} {v:Value} {l:List (Int×Int)} (h:w.ownsRow base 95 2 v l.length (flat l)):PolyC w w.heap.size v l:=by
 refine⟨Poly.ofRow h,?_⟩
 rcases h.2 with⟨rfl,h0⟩|⟨g,cap,cur,rfl,_,_,h1,h2,_⟩
 · exact⟨none,0,0,rfl,Nat.le_refl _,Nat.zero_le _⟩
 · exact⟨_,_,_,rfl,h1,h2⟩
theorem PolyC.up {w w':World} {v:Value} {l:List (Int×Int)} (h:PolyC w w.heap.size v l) (hb:Below w.heap.size w w'):PolyC w' w'.heap.size v l:=⟨h.1.up hb,h.2⟩
end Go.Proofs.Ytgagenmkpmmpfaa.Poly
