/- Several texts of the proof, one behind the other. -/
import Derived.Test.YtefooihnoajnlaaPA9
import Derived.Maps.OwnSet
import Derived.Lib.Hide
import Derived.Test.YtefooihnoajnlaaPCanonP
/- The walks of poly.changed with the two closures that Flip and Unit hand it, and of Flip and Unit. -/
namespace Go.Proofs.Ytefooihnoajnlaa.Poly
open Go.RowKit Go.Maps
theorem coefOf_put {D:DataW Unit} (hD:IsMap D) (x c y:Int):coefOf (D.put (.int .i64 x) (.lit (.int .i64 c))) y=if x=y then c else coefOf D y:=by
 by_cases h:x=y
 · subst h
   rw[if_pos rfl]
   exact coefOf_at fun zd=>atKey_put_same hD (show WideAt.IsKeyLit (.int .i64 x) from trivial) _ _
 · rw[if_neg h]
   unfold coefOf
   rw[atKey_put_other (by intro e;cases e;exact h rfl)]
theorem coefOf_look {D:DataW Unit} {x c:Int} (h:D.atKey (.int .i64 x) (.lit (.int .i64 0))=.lit (.int .i64 c)):coefOf D x=c:=by
 unfold coefOf;rw[h]
theorem size_le {w:World} {b n:Nat} {D:DataW Unit} (h:w.ownsMap Try.prog 3 (plainElem Try.prog 3) b n D):Maps.size D<=n:=by
 obtain⟨es,clock,_,_,hle,rfl⟩:=h
 rw[size_eq,length_read]
 exact hle
theorem grown_below {w w':World} (h:Below w.heap.size w w') (row:Option Nat):w.grownBy w' row:=⟨h.os,h.tape,h.output,h.size,fun k hk _=>h.block k hk⟩
end Go.Proofs.Ytefooihnoajnlaa.Poly
/- The walk of (poly.work).plus: the sum of two maps, as a new one. -/
namespace Go.Proofs.Ytefooihnoajnlaa.Poly
open Go.RowKit Go.Maps
def part (left:Lit->Bool) (f:Int->Int) (x:Int):Int:=if left (.int .i64 x) then 0 else f x
end Go.Proofs.Ytefooihnoajnlaa.Poly
/- The walk of knotworkref.Put: a term put into a list in form. -/
namespace Go.Proofs.Ytefooihnoajnlaa.Poly
open Go.RowKit Go.Maps
set_option maxHeartbeats 2000000
set_option maxRecDepth 100000
theorem termsAt_take {w:World} {b off:Nat} {l:List (Int×Int)} (h:TermsAt w b off l) (k:Nat):TermsAt w b off (l.take k):=by
 intro i hi
 have h1:i<l.length:=by simp at hi;omega
 have h2:i<k:=by simp at hi;omega
 have g:(l.take k).getD i (0,0)=l.getD i (0,0):=by simp[List.getD,h2]
 rw[g]
 exact h i h1
theorem termsAt_drop {w:World} {b off:Nat} {l:List (Int×Int)} (h:TermsAt w b off l) (k:Nat):TermsAt w b (off+k*2) (l.drop k):=by
 intro i hi
 have h1:k+i<l.length:=by simp at hi;omega
 have g:(l.drop k).getD i (0,0)=l.getD (k+i) (0,0):=by simp[List.getD,List.getElem?_drop]
 rw[g]
 have:=h (k+i) h1
 rw[show off+(k+i)*2=off+k*2+i*2 by omega]at this
 exact this
theorem own_len {w:World} {B:Nat} {v:Value} {n m:Nat} {xs:List Value} (h:w.ownsRow B 62 2 v n xs) (e:m=n):w.ownsRow B 62 2 v m xs:=by rw[e];exact h
theorem flat_len_take (l:List (Int×Int)) (k:Nat) (h:k<=l.length):(flat (l.take k)).length=k*2:=by rw[flat_length,List.length_take,Nat.min_eq_left h]
theorem flat_len_drop (l:List (Int×Int)) (k:Nat):(flat (l.drop k)).length=(l.length-k)*2:=by rw[flat_length,List.length_drop]
theorem put_some (b off cap : Nat) (l : List (Int × Int)) (e c : Int) (w : World) (hpos : 0 < l.length) (hl : l.length ≤ 100000) (hcap : l.length ≤ cap) (hcap2 : cap ≤ maxLen) (hc0 : c ≠ 0) (hc1 : -1000000000000000 ≤ c) (hc2 : c ≤ 1000000000000000) (hbl : ∀ t ∈ l, -1000000000000000 ≤ t.2 ∧ t.2 ≤ 1000000000000000) (hbw : b < w.heap.size) (hT : TermsAt w b off l) :
    Calls Try.prog 22 #[.slice (some ⟨b,off,none⟩) l.length cap,.int .i64 e,.int .i64 c] w fun r w'=>∃ v,r=.returned v/\w'.ownsRow w.heap.size 62 2 v (putL l e c).length (flat (putL l e c))/\Below w.heap.size w w':=by
 obtain⟨i0,hi,hz0,hz1,hz2⟩:=info_parts infoTerm
 have hcb:(c==0)=false:=by simpa using hc0
 have HT:Hid (TermsAt w b off l):=hT
 have HBL:Hid _:=hbl
 have hak:=ahead_le l e
 have HLT:Hid (∀ i,i<ahead l e->(l.getD i (0,0)).1<e):=fun i hi=>ahead_lt l e i hi
 have HGE:Hid (ahead l e<l.length->e<=(l.getD (ahead l e) (0,0)).1):=fun h=>ahead_ge l e h
 have HPUT : Hid (putL l e c = if ahead l e < l.length ∧ (l.getD (ahead l e) (0, 0)).1 = e then
  (if(l.getD (ahead l e) (0,0)).2+c=0 then l.take (ahead l e)++l.drop (ahead l e+1) else l.take (ahead l e)++[(e,(l.getD (ahead l e) (0,0)).2+c)]++l.drop (ahead l e+1))
 else l.take (ahead l e)++[(e,c)]++l.drop (ahead l e)):=by show _=_;unfold putL;rw[if_neg hc0]
 generalize hK:ahead l e=K at hak HLT HGE HPUT
 clear hT hbl hK hc0
 unfold maxLen at hcap2
 go_enter Try.func22,Try.ntmps22
 go_wp2
 go_loopw [7] (fun i wr=>∃ k:Nat,k<=K/\i=.int .i64 k/\Below w.heap.size w wr) (fun i _=>K-(intOf i).toNat)
 case atStart=>exact⟨0,Nat.zero_le _,rfl,Below.refl _ _⟩
 case round=>
  obtain⟨k,hk,rfl,hb⟩:=hrel
  by_cases hlt:k<K
  · have hkl:k<l.length:=by omega
    have c0:=bcell hb hbw (HT.out k hkl).1
    have hlt2:=HLT.out k hlt
    generalize (l.getD k (0,0)).1=ek at c0 hlt2
    go_wp2
    go_roundw
    case rel=>exact⟨k+1,by omega,by go_num,hb⟩
    case measure=>simp[intOf];omega
  · obtain rfl:k=K:=by omega
    have hsz:=hb.size
    have hTr:Hid (TermsAt wr b off l):=HT.out.on hb hbw
    by_cases hend:k<l.length
    · have hge:=HGE.out hend
      obtain⟨c0,c1⟩:=hTr.out k hend
      generalize hek:(l.getD k (0,0)).1=ek at c0 hge HPUT
      generalize hck:(l.getD k (0,0)).2=ck at c1 HPUT
      go_wp2_with (first
       |(at_builtin;refine wpList_append_own _ rfl _ _ 30 rfl w.heap.size 62 i0 (.agg #[.int .i64 0,.int .i64 0]) 2 16 Try.underlying30 hi hz0 hz1 hz2 rfl (by decide) _ 0 [] rfl (World.ownsRow_nil _ _ _ _) ⟨b,off,none⟩ k cap (flat (l.take k)) rfl (flat_len_take l k (by omega)) (flat_at (termsAt_take hTr.out k)) (flat_one _) (by unfold maxLen;omega) (by omega) hsz ?_;intro v1 w1 hown1 hg1 _;refine Hid.out ?_))
      refine Lib.hid ?_
      rw[Nat.zero_add,List.nil_append]at hown1
      have hnx1:Below w.heap.size w w1:=hb.grown hg1 hsz (fun q hq=>by cases hq)
      have hT1:Hid (TermsAt w1 b off l):=HT.out.on hnx1 hbw
      have q0:w1.cell? ⟨b,off+k*2,none⟩=some (.int .i64 ek):=by rw[<-hek];exact(hT1.out k hend).1
      have q1:w1.cell? ⟨b,off+k*2+1,none⟩=some (.int .i64 ck):=by rw[<-hck];exact(hT1.out k hend).2
      have hbk := HBL.out (l.getD k (0, 0)) (by have g : l.getD k (0, 0) = l[k] := by simp [List.getD, hend]
                                                rw[g];exact List.getElem_mem hend)
      rw[hck]at hbk
      have hs1:=hnx1.size
      clear hb hg1 hek hck c0 c1 hTr hsz
      by_cases heq:ek=e
      · have heb:(ek==e)=true:=by simpa using heq
        have HEQ:Hid (ek=e):=heq
        clear heq
        have hw1:w1.heap.size≥w.heap.size:=hs1
        by_cases hz:ck+c=0
        · have hzb:(ck+c != 0)=false:=by simp[hz]
          have HPUT2:Hid (putL l e c=l.take k++l.drop (k+1)):=by show _=_;rw[HPUT.out,if_pos ⟨hend,HEQ.out⟩,if_pos hz]
          clear hz
          by_cases hkc:cap=k+1
          · have hlk:l.length-(k+1)=0:=by omega
            have hdr:l.drop (k+1)=[]:=List.drop_eq_nil_of_le (by omega)
            go_wp2_with (first
             |(at_builtin;refine wpList_append_own _ rfl _ _ 30 rfl w.heap.size 62 i0 (.agg #[.int .i64 0,.int .i64 0]) 2 16 Try.underlying30 hi hz0 hz1 hz2 rfl (by decide) _ _ _ rfl hown1 ⟨b,off,none⟩ 0 _ [] rfl rfl (fun j u h=>by simp at h) (fun u h=>by simp at h) (by unfold maxLen;omega) (by omega) (by omega) ?_;intro v3 w3 hown3 hg3 _))
            go_ret
            refine⟨v3,rfl,?_,hnx1.grown hg3 (by omega) (fun q hq=>(hown1.lt q hq).1)⟩
            rw[HPUT2.out,hdr,flat_append]
            exact own_len hown3 (by simp;omega)
          · go_wp2_with (first
              |(at_builtin;refine wpList_append_own _ rfl _ _ 30 rfl w.heap.size 62 i0 (.agg #[.int .i64 0,.int .i64 0]) 2 16 Try.underlying30 hi hz0 hz1 hz2 rfl (by decide) _ _ _ rfl hown1 ⟨b,off+(k+1)*2,none⟩ (l.length - (k+1)) _ (flat (l.drop (k+1))) rfl (flat_len_drop l (k+1)) (flat_at (termsAt_drop hT1.out (k+1))) (flat_one _) (by unfold maxLen;omega) (by omega) (by omega) ?_;intro v3 w3 hown3 hg3 _))
            go_ret
            refine⟨v3,rfl,?_,hnx1.grown hg3 (by omega) (fun q hq=>(hown1.lt q hq).1)⟩
            rw[HPUT2.out,flat_append]
            exact own_len hown3 (by simp;omega)
        · have hzb:(ck+c != 0)=true:=by simpa using hz
          have HPUT2:Hid (putL l e c=l.take k++[(e,ck+c)]++l.drop (k+1)):=by show _=_;rw[HPUT.out,if_pos ⟨hend,HEQ.out⟩,if_neg hz]
          clear hz
          go_wp2_with (first
           |(at_builtin;refine wpList_append_own _ rfl _ _ 30 rfl w.heap.size 62 i0 (.agg #[.int .i64 0,.int .i64 0]) 2 16 Try.underlying30 hi hz0 hz1 hz2 rfl (by decide) _ _ _ rfl (hown1.alloc _) ⟨w1.heap.size,0,none⟩ 1 1 [.int .i64 e,.int .i64 (ck+c)] rfl rfl (new_cells _ _ _) (pair_one _ _) (by unfold maxLen;omega) (by omega) (by simp;omega) ?_;intro v2 w2 hown2 hg2 _;refine Hid.out ?_))
          refine Lib.hid ?_
          have hnx2:Below w.heap.size w w2:=(hnx1.alloc hs1 _).grown hg2 (by simp;omega) (fun q hq=>(hown1.lt q hq).1)
          have hT2:Hid (TermsAt w2 b off l):=HT.out.on hnx2 hbw
          have hs2:=hnx2.size
          clear hown1 hg2 hT1 q0 q1
          by_cases hkc:cap=k+1
          · have hlk:l.length-(k+1)=0:=by omega
            have hdr:l.drop (k+1)=[]:=List.drop_eq_nil_of_le (by omega)
            go_wp2_with (first
             |(at_builtin;refine wpList_append_own _ rfl _ _ 30 rfl w.heap.size 62 i0 (.agg #[.int .i64 0,.int .i64 0]) 2 16 Try.underlying30 hi hz0 hz1 hz2 rfl (by decide) _ _ _ rfl hown2 ⟨b,off,none⟩ 0 _ [] rfl rfl (fun j u h=>by simp at h) (fun u h=>by simp at h) (by unfold maxLen;omega) (by omega) (by omega) ?_;intro v3 w3 hown3 hg3 _))
            go_ret
            refine⟨v3,rfl,?_,hnx2.grown hg3 (by omega) (fun q hq=>(hown2.lt q hq).1)⟩
            rw[HPUT2.out,hdr,flat_append,flat_append]
            exact own_len hown3 (by simp;omega)
          · go_wp2_with (first
              |(at_builtin;refine wpList_append_own _ rfl _ _ 30 rfl w.heap.size 62 i0 (.agg #[.int .i64 0,.int .i64 0]) 2 16 Try.underlying30 hi hz0 hz1 hz2 rfl (by decide) _ _ _ rfl hown2 ⟨b,off+(k+1)*2,none⟩ (l.length - (k+1)) _ (flat (l.drop (k+1))) rfl (flat_len_drop l (k+1)) (flat_at (termsAt_drop hT2.out (k+1))) (flat_one _) (by unfold maxLen;omega) (by omega) (by omega) ?_;intro v3 w3 hown3 hg3 _))
            go_ret
            refine⟨v3,rfl,?_,hnx2.grown hg3 (by omega) (fun q hq=>(hown2.lt q hq).1)⟩
            rw[HPUT2.out,flat_append,flat_append]
            exact own_len hown3 (by simp;omega)
      · have heb:(ek==e)=false:=by simpa using heq
        have HPUT2:Hid (putL l e c=l.take k++[(e,c)]++l.drop k):=by show _=_;rw[HPUT.out,if_neg (fun h=>heq h.2)]
        go_wp2_with (first
         |(at_builtin;refine wpList_append_own _ rfl _ _ 30 rfl w.heap.size 62 i0 (.agg #[.int .i64 0,.int .i64 0]) 2 16 Try.underlying30 hi hz0 hz1 hz2 rfl (by decide) _ _ _ rfl (hown1.alloc _) ⟨w1.heap.size,0,none⟩ 1 1 [.int .i64 e,.int .i64 (c)] rfl rfl (new_cells _ _ _) (pair_one _ _) (by unfold maxLen;omega) (by omega) (by simp;omega) ?_;intro v2 w2 hown2 hg2 _;refine Hid.out ?_))
        refine Lib.hid ?_
        have hnx2:Below w.heap.size w w2:=(hnx1.alloc hs1 _).grown hg2 (by simp;omega) (fun q hq=>(hown1.lt q hq).1)
        have hT2:Hid (TermsAt w2 b off l):=HT.out.on hnx2 hbw
        have hs2:=hnx2.size
        clear hown1 hg2 hT1 q0 q1
        go_wp2_with (first
         |(at_builtin;refine wpList_append_own _ rfl _ _ 30 rfl w.heap.size 62 i0 (.agg #[.int .i64 0,.int .i64 0]) 2 16 Try.underlying30 hi hz0 hz1 hz2 rfl (by decide) _ _ _ rfl hown2 ⟨b,off+k*2,none⟩ (l.length - k) _ (flat (l.drop k)) rfl (flat_len_drop l k) (flat_at (termsAt_drop hT2.out k)) (flat_one _) (by unfold maxLen;omega) (by omega) (by omega) ?_;intro v3 w3 hown3 hg3 _))
        go_ret
        refine⟨v3,rfl,?_,hnx2.grown hg3 (by omega) (fun q hq=>(hown2.lt q hq).1)⟩
        rw[HPUT2.out,flat_append,flat_append]
        exact own_len hown3 (by simp;omega)
    · have hkl:k=l.length:=by omega
      have HPUT2:Hid (putL l e c=l++[(e,c)]):=by
       show _=_
       rw[HPUT.out,if_neg (fun h=>hend h.1),hkl,List.take_of_length_le (Nat.le_refl _),List.drop_eq_nil_of_le (Nat.le_refl _),List.append_nil]
      have htk:l.take k=l:=List.take_of_length_le (by omega)
      have hlk:l.length-k=0:=by omega
      have HKL:Hid (k=l.length):=hkl
      clear hkl
      go_wp2_with (first
       |(at_builtin;refine wpList_append_own _ rfl _ _ 30 rfl w.heap.size 62 i0 (.agg #[.int .i64 0,.int .i64 0]) 2 16 Try.underlying30 hi hz0 hz1 hz2 rfl (by decide) _ 0 [] rfl (World.ownsRow_nil _ _ _ _) ⟨b,off,none⟩ k cap (flat (l.take k)) rfl (flat_len_take l k (by omega)) (flat_at (termsAt_take hTr.out k)) (flat_one _) (by unfold maxLen;omega) (by omega) hsz ?_;intro v1 w1 hown1 hg1 _;refine Hid.out ?_))
      refine Lib.hid ?_
      rw[Nat.zero_add,List.nil_append]at hown1
      have hnx1:Below w.heap.size w w1:=hb.grown hg1 hsz (fun q hq=>by cases hq)
      have hs1:=hnx1.size
      clear hb hg1 hTr hsz
      go_wp2_with (first
       |(at_builtin;refine wpList_append_own _ rfl _ _ 30 rfl w.heap.size 62 i0 (.agg #[.int .i64 0,.int .i64 0]) 2 16 Try.underlying30 hi hz0 hz1 hz2 rfl (by decide) _ _ _ rfl (hown1.alloc _) ⟨w1.heap.size,0,none⟩ 1 1 [.int .i64 e,.int .i64 (c)] rfl rfl (new_cells _ _ _) (pair_one _ _) (by unfold maxLen;omega) (by omega) (by simp;omega) ?_;intro v2 w2 hown2 hg2 _;refine Hid.out ?_))
      refine Lib.hid ?_
      have hnx2:Below w.heap.size w w2:=(hnx1.alloc hs1 _).grown hg2 (by simp;omega) (fun q hq=>(hown1.lt q hq).1)
      have hs2:=hnx2.size
      clear hown1 hg2
      rw[htk]at hown2
      by_cases hkc:cap=k
      · go_wp2_with (first
          |(at_builtin;refine wpList_append_own _ rfl _ _ 30 rfl w.heap.size 62 i0 (.agg #[.int .i64 0,.int .i64 0]) 2 16 Try.underlying30 hi hz0 hz1 hz2 rfl (by decide) _ _ _ rfl hown2 ⟨b,off,none⟩ 0 _ [] rfl rfl (fun j u h=>by simp at h) (fun u h=>by simp at h) (by unfold maxLen;omega) (by omega) (by omega) ?_;intro v3 w3 hown3 hg3 _))
        go_ret
        refine⟨v3,rfl,?_,hnx2.grown hg3 (by omega) (fun q hq=>(hown2.lt q hq).1)⟩
        rw[HPUT2.out,flat_append]
        rw[List.append_nil]at hown3
        exact own_len hown3 (by simp;have:=HKL.out;omega)
      · go_wp2_with (first
          |(at_builtin;refine wpList_append_own _ rfl _ _ 30 rfl w.heap.size 62 i0 (.agg #[.int .i64 0,.int .i64 0]) 2 16 Try.underlying30 hi hz0 hz1 hz2 rfl (by decide) _ _ _ rfl hown2 ⟨b,off+k*2,none⟩ 0 _ [] rfl rfl (fun j u h=>by simp at h) (fun u h=>by simp at h) (by unfold maxLen;omega) (by omega) (by omega) ?_;intro v3 w3 hown3 hg3 _))
        go_ret
        refine⟨v3,rfl,?_,hnx2.grown hg3 (by omega) (fun q hq=>(hown2.lt q hq).1)⟩
        rw[HPUT2.out,flat_append]
        rw[List.append_nil]at hown3
        exact own_len hown3 (by simp;have:=HKL.out;omega)
theorem put_zero (v : Value) (e : Int) (w : World) :
    Calls Try.prog 22 #[v,.int .i64 e,.int .i64 0] w fun r w'=>r=.returned v/\w'=w:=by
 go_enter Try.func22,Try.ntmps22
 go_wp2
 go_ret
 exact⟨rfl,rfl⟩
theorem put_nil (e c : Int) (w : World) (hc0 : c ≠ 0) :
    Calls Try.prog 22 #[.slice none 0 0,.int .i64 e,.int .i64 c] w fun r w'=>∃ v,r=.returned v/\w'.ownsRow w.heap.size 62 2 v 1 (flat [(e,c)])/\Below w.heap.size w w':=by
 obtain⟨i0,hi,hz0,hz1,hz2⟩:=info_parts infoTerm
 have hcb:(c==0)=false:=by simpa using hc0
 clear hc0
 go_enter Try.func22,Try.ntmps22
 go_wp2
 go_loopw [7] (fun i wr=>i=.int .i64 0/\wr=w) (fun _ _=>0)
 case atStart=>exact⟨rfl,rfl⟩
 case round=>
  obtain⟨rfl,rfl⟩:=hrel
  go_wp2_with (at_builtin;refine wpList_append_own_none rfl _ _ 30 rfl wr.heap.size 62 i0 2 Try.underlying30 hi _ 0 [] rfl (World.ownsRow_nil _ _ _ _) rfl ?_;refine Hid.out ?_)
  refine Lib.hid ?_
  go_wp2_with (at_builtin;refine wpList_append_own _ rfl _ _ 30 rfl wr.heap.size 62 i0 (.agg #[.int .i64 0,.int .i64 0]) 2 16 Try.underlying30 hi hz0 hz1 hz2 rfl (by decide) _ 0 [] rfl (World.ownsRow_nil _ _ _ _) ⟨wr.heap.size,0,none⟩ 1 1 [.int .i64 e,.int .i64 c] rfl rfl (new_cells _ _ _) (pair_one _ _) (by unfold maxLen;omega) (by omega) (by simp) ?_;intro v2 w2 hown2 hg2 _;refine Hid.out ?_)
  refine Lib.hid ?_
  have hnx2:Below wr.heap.size wr w2:=((Below.refl _ _).alloc (Nat.le_refl _) _).grown hg2 (by simp) (fun q hq=>by cases hq)
  go_wp2_with (at_builtin;refine wpList_append_own_none rfl _ _ 30 rfl wr.heap.size 62 i0 2 Try.underlying30 hi _ _ _ rfl hown2 rfl ?_)
  go_ret
  exact⟨v2,rfl,hown2,hnx2⟩
theorem put_empty (a : Addr) (cap : Nat) (e c : Int) (w : World) (hc0 : c ≠ 0) :
    Calls Try.prog 22 #[.slice (some a) 0 cap,.int .i64 e,.int .i64 c] w fun r w'=>∃ v,r=.returned v/\w'.ownsRow w.heap.size 62 2 v 1 (flat [(e,c)])/\Below w.heap.size w w':=by
 obtain⟨i0,hi,hz0,hz1,hz2⟩:=info_parts infoTerm
 have hcb:(c==0)=false:=by simpa using hc0
 clear hc0
 go_enter Try.func22,Try.ntmps22
 go_wp2
 go_loopw [7] (fun i wr=>i=.int .i64 0/\wr=w) (fun _ _=>0)
 case atStart=>exact⟨rfl,rfl⟩
 case round=>
  obtain⟨rfl,rfl⟩:=hrel
  go_wp2_with (at_builtin;refine wpList_append_own _ rfl _ _ 30 rfl wr.heap.size 62 i0 (.agg #[.int .i64 0,.int .i64 0]) 2 16 Try.underlying30 hi hz0 hz1 hz2 rfl (by decide) _ 0 [] rfl (World.ownsRow_nil _ _ _ _) _ 0 _ [] rfl rfl (fun j u h=>by simp at h) (fun u h=>by simp at h) (by decide) (by decide) (Nat.le_refl _) ?_;intro v1 w1 hown1 hg1 _;refine Hid.out ?_)
  refine Lib.hid ?_
  have hnx1:Below wr.heap.size wr w1:=(Below.refl _ _).grown hg1 (Nat.le_refl _) (fun q hq=>by cases hq)
  have hs1:=hnx1.size
  go_wp2_with (at_builtin;refine wpList_append_own _ rfl _ _ 30 rfl wr.heap.size 62 i0 (.agg #[.int .i64 0,.int .i64 0]) 2 16 Try.underlying30 hi hz0 hz1 hz2 rfl (by decide) _ _ _ rfl (hown1.alloc _) ⟨w1.heap.size,0,none⟩ 1 1 [.int .i64 e,.int .i64 c] rfl rfl (new_cells _ _ _) (pair_one _ _) (by unfold maxLen;omega) (by omega) (by simp;omega) ?_;intro v2 w2 hown2 hg2 _;refine Hid.out ?_)
  refine Lib.hid ?_
  have hnx2:Below wr.heap.size wr w2:=(hnx1.alloc hs1 _).grown hg2 (by simp;omega) (fun q hq=>(hown1.lt q hq).1)
  have hs2:=hnx2.size
  by_cases hk:cap=0
  · go_wp2_with (at_builtin;refine wpList_append_own _ rfl _ _ 30 rfl wr.heap.size 62 i0 (.agg #[.int .i64 0,.int .i64 0]) 2 16 Try.underlying30 hi hz0 hz1 hz2 rfl (by decide) _ _ _ rfl hown2 _ 0 _ [] rfl rfl (fun j u h=>by simp at h) (fun u h=>by simp at h) (by unfold maxLen;omega) (by omega) hs2 ?_;intro v3 w3 hown3 hg3 _)
    go_ret
    exact⟨v3,rfl,by simpa[flat] using hown3,hnx2.grown hg3 hs2 (fun q hq=>(hown2.lt q hq).1)⟩
  · go_wp2_with (at_builtin;refine wpList_append_own _ rfl _ _ 30 rfl wr.heap.size 62 i0 (.agg #[.int .i64 0,.int .i64 0]) 2 16 Try.underlying30 hi hz0 hz1 hz2 rfl (by decide) _ _ _ rfl hown2 _ 0 _ [] rfl rfl (fun j u h=>by simp at h) (fun u h=>by simp at h) (by unfold maxLen;omega) (by omega) hs2 ?_;intro v3 w3 hown3 hg3 _)
    go_ret
    exact⟨v3,rfl,by simpa[flat] using hown3,hnx2.grown hg3 hs2 (fun q hq=>(hown2.lt q hq).1)⟩
def PolyC (w:World) (B:Nat) (v:Value) (l:List (Int×Int)):Prop:=Poly w B v l/\∃ a n c,v=.slice a n c/\n<=c/\c<=maxLen
theorem PolyC.ofRow {w:World} {base:Nat} {v:Value} {l:List (Int×Int)} (h:w.ownsRow base 62 2 v l.length (flat l)):PolyC w w.heap.size v l:=by
 refine⟨Poly.ofRow h,?_⟩
 rcases h.2 with⟨rfl,h0⟩|⟨g,cap,cur,rfl,_,_,h1,h2,_⟩
 · exact⟨none,0,0,rfl,Nat.le_refl _,Nat.zero_le _⟩
 · exact⟨_,_,_,rfl,h1,h2⟩
theorem PolyC.up {w w':World} {v:Value} {l:List (Int×Int)} (h:PolyC w w.heap.size v l) (hb:Below w.heap.size w w'):PolyC w' w'.heap.size v l:=⟨h.1.up hb,h.2⟩
theorem put_poly (v : Value) (l : List (Int × Int)) (e c : Int) (w : World) (hl : l.length ≤ 100000) (hc1 : -1000000000000000 ≤ c) (hc2 : c ≤ 1000000000000000) (hbl : ∀ t ∈ l, -1000000000000000 ≤ t.2 ∧ t.2 ≤ 1000000000000000) (hP : PolyC w w.heap.size v l) :
    Calls Try.prog 22 #[v,.int .i64 e,.int .i64 c] w fun r w'=>∃ v',r=.returned v'/\PolyC w' w'.heap.size v' (putL l e c)/\Below w.heap.size w w':=by
 by_cases hc0:c=0
 · subst hc0
   refine(put_zero v e w).mono ?_
   rintro r w' ⟨rfl,rfl⟩
   exact⟨v,rfl,by rw[show putL l e 0=l from if_pos rfl];exact hP,Below.refl _ _⟩
 · obtain⟨hP,a',n',c',hv,hnc,hcm⟩:=hP
   rcases hP with⟨rfl,rfl⟩|⟨a,cap,rfl,rfl⟩|⟨b,off,cap,rfl,hlt,hT⟩
   · have hp:putL [] e c=[(e,c)]:=by unfold putL;rw[if_neg hc0];rfl
     refine(put_nil e c w hc0).mono ?_
     rintro r w' ⟨v,rfl,hrow,hb⟩
     exact⟨v,rfl,by rw[hp];exact PolyC.ofRow hrow,hb⟩
   · have hp:putL [] e c=[(e,c)]:=by unfold putL;rw[if_neg hc0];rfl
     refine(put_empty a cap e c w hc0).mono ?_
     rintro r w' ⟨v,rfl,hrow,hb⟩
     exact⟨v,rfl,by rw[hp];exact PolyC.ofRow hrow,hb⟩
   · have hnc':l.length<=cap:=by cases hv;exact hnc
     have hcm':cap<=maxLen:=by cases hv;exact hcm
     rcases Nat.eq_zero_or_pos l.length with h0|h0
     · have e0:l=[]:=List.length_eq_zero_iff.1 h0
       subst e0
       have hp:putL [] e c=[(e,c)]:=by unfold putL;rw[if_neg hc0];rfl
       refine(put_empty ⟨b,off,none⟩ cap e c w hc0).mono ?_
       rintro r w' ⟨v,rfl,hrow,hb⟩
       exact⟨v,rfl,by rw[hp];exact PolyC.ofRow hrow,hb⟩
     · refine(put_some b off cap l e c w h0 hl hnc' hcm' hc0 hc1 hc2 hbl hlt hT).mono ?_
       rintro r w' ⟨v,rfl,hrow,hb⟩
       exact⟨v,rfl,PolyC.ofRow hrow,hb⟩
end Go.Proofs.Ytefooihnoajnlaa.Poly
/- Burau's tables: plain mathematics of polynomials as functions. -/
namespace Go.Proofs.Ytefooihnoajnlaa.Poly
open Go.RowKit Go.Maps
theorem few_natsB:∀ (n:Nat) (l:List Nat),l.Pairwise (·≠·)->(∀ x∈l,x<n)->l.length<=n:=by
 intro n
 induction n with
 |zero=>
  intro l _ h
  cases l with
  |nil=>simp
  |cons x l=>exact absurd (h x (by simp)) (by omega)
 |succ n ih=>
  intro l hp h
  have h1 := ih (l.filter fun x => x != n) (hp.sublist List.filter_sublist) (fun x hx => by
   simp only[List.mem_filter,bne_iff_ne,ne_eq]at hx
   have:=h x hx.1
   omega)
  have h2:∀ (l:List Nat),l.Pairwise (·≠·)->l.length<=(l.filter fun x=>x != n).length+1:=by
   intro l hp
   induction l with
   |nil=>simp
   |cons x l ihl=>
    rw[List.pairwise_cons]at hp
    by_cases hx:x=n
    · have e : (l.filter fun x => x != n) = l := by
        rw[List.filter_eq_self]
        intro y hy
        have:=hp.1 y hy
        simp only[bne_iff_ne,ne_eq]
        omega
      simp[hx,e]
    · have:=ihl hp.2
      simp[hx]
      omega
  have:=h2 l hp
  omega
theorem few_intsB (K:Nat) (l:List Int) (hp:l.Pairwise (·≠·)) (h:∀ x∈l,-(K:Int)<=x/\x<=K):l.length<=2*K+1:=by
 have := few_natsB (2 * K + 1) (l.map fun x : Int => (x + (K : Int)).toNat) (by
  rw[List.pairwise_map]
  refine List.Pairwise.imp_of_mem ?_ hp
  intro a b ha hb hab e
  have:=h a ha
  have:=h b hb
  omega) (fun x hx=>by
  simp only[List.mem_map]at hx
  obtain⟨y,hy,rfl⟩:=hx
  have:=h y hy
  omega)
 simpa using this
theorem canon_lenB {l:List (Int×Int)} {f:Int->Int} (h:Canon l f) (K:Nat) (hf:∀ x,f x≠0 -> -(K:Int)<=x/\x<=K):l.length<=2*K+1:=by
 have := few_intsB K (l.map Prod.fst) (by
  rw[List.pairwise_map]
  exact h.1.imp fun hab=>by omega) (fun x hx=>by
  simp only[List.mem_map]at hx
  obtain⟨t,ht,rfl⟩:=hx
  have:=(h.2 t.1 t.2).1 ht
  exact hf t.1 (by rw[this.1];exact this.2))
 simpa using this
structure BuOk (H K:Nat) (f:Int->Int):Prop where
 bd:∀ y,-(H:Int)<=f y/\f y<=H
 sp:∀ y,f y≠0 -> -(K:Int)<=y/\y<=K
theorem BuOk.mono {H K H' K':Nat} {f:Int->Int} (h:BuOk H K f) (h1:H<=H') (h2:K<=K'):BuOk H' K' f:=⟨fun y=>by have:=h.bd y;omega,fun y hy=>by have:=h.sp y hy;omega⟩
end Go.Proofs.Ytefooihnoajnlaa.Poly
