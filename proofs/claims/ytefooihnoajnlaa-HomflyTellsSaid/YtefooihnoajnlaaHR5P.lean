/- Several texts of the proof, one behind the other. -/
import Derived.Test.YtefooihnoajnlaaHR4
import Derived.Test.YtefooihnoajnlaaPA10P
import Derived.Test.YtefooihnoajnlaaPA5P
/- The contracts of knotworkref.HomflyOf and ConwayOf. -/
namespace Go.Proofs.Ytefooihnoajnlaa.Poly
open Go.RowKit Go.Maps
set_option maxHeartbeats 4000000
set_option maxRecDepth 100000
theorem may_oneH {C:List Cr} {lo:Int} (hm:mayD C lo=true):mayD C 1=true:=by
 obtain⟨s1,-,-,-⟩:=sizeB_iff (may_size hm)
 simp only[mayD,Bool.and_eq_true]at hm ⊢
 refine⟨?_,hm.2⟩
 unfold sizeB
 simp only[Bool.and_eq_true,decide_eq_true_eq]
 exact⟨⟨⟨s1,by decide⟩,by decide⟩,by simp⟩
theorem fbC_in {C:List Cr} {lo:Int} (hm:mayD C lo=true) {k:Nat} (hf:fbC C=some k):k<C.length:=by
 rw[fb_walks hm]at hf
 refine fb_in hm _ _ k (fun a ha=>?_) hf
 obtain⟨l,hl,hal⟩:=List.mem_flatten.1 ha
 obtain⟨j,hj,rfl⟩:=List.mem_iff_getElem.1 hl
 obtain⟨i,hi,rfl⟩:=List.mem_iff_getElem.1 hal
 have h:=((walksM_facts hm).2 j hj).2.2
 rw[List.getD_eq_getElem?_getD,List.getElem?_eq_getElem hj]at h
 simp only[Option.getD_some]at h
 have h2:=h i hi
 rw[List.getD_eq_getElem?_getD,List.getElem?_eq_getElem hi]at h2
 exact h2
theorem hof_up:∀ (n b:Nat) (C:List Cr) (r:Nat),mayD C 1=true->C.length<=8->2*C.length+r<=32->C.length<=n->npC C<=b->HofAt C r:=by
 intro n
 induction n with
 |zero=>
  intro b C r hm h8 hr hn hb
  cases hf:fbC C with
  |none=>exact fun a cap w hD=>homflyOf_none a cap C r w hm h8 hr hf hD
  |some k=>have:=fbC_in hm hf;omega
 |succ n ihn=>
  intro b
  induction b with
  |zero=>
   intro C r hm h8 hr hn hb
   cases hf:fbC C with
   |none=>exact fun a cap w hD=>homflyOf_none a cap C r w hm h8 hr hf hD
   |some k=>have:=nb_less hm (fbC_in hm hf) hf;omega
  |succ b ihb=>
   intro C r hm h8 hr hn hb
   cases hf:fbC C with
   |none=>exact fun a cap w hD=>homflyOf_none a cap C r w hm h8 hr hf hD
   |some k=>
    have hk:=fbC_in hm hf
    have h1:=nb_less hm hk hf
    have h2:=smD_len hk
    have h3:=smN_le hm (k:=k)
    refine homflyOf_some C r k hm h8 hr hf hk (ihb _ r (chD_may hm hk) (by rw[chD_len];exact h8) (by rw[chD_len];exact hr) (by rw[chD_len];exact hn) (by omega)) (ihn _ _ _ (smD_may hm hk) (by omega) (by omega) (by omega) (Nat.le_refl _))
theorem homflyOf_any (C:List Cr) (r:Nat) (hm:mayD C (r:Nat)=true) (h8:C.length<=8):HofAt C r:=by
 obtain⟨-,-,s3,-⟩:=sizeB_iff (may_size hm)
 exact hof_up _ _ C r (may_oneH hm) h8 (by omega) (Nat.le_refl _) (Nat.le_refl _)
theorem cw_few {zl l:List (Int×Int)} {f:Int->Int} {i:Nat} (h:Canon zl (coefL ((cwL l).take i))) (hl:Canon l f) (hf:Sup 80 f):zl.length<=161:=
 canon_lenB h 80 (fun x hx => Classical.byContradiction fun q => hx (coefL_zero _ _ (fun t ht e => q (by
  obtain⟨u,hu,rfl⟩:=List.mem_map.1 (List.mem_of_mem_take ht)
  have:=canon_in hl hf u hu
  have e:dz u.1=x:=e
  unfold Inb at this
  omega))))
theorem conwayOf_any (a : Option Addr) (cap : Nat) (C : List Cr) (r : Nat) (w : World) (hm : mayD C (r : Nat) = true) (h8 : C.length ≤ 8) (hD : Crs w w.heap.size (.slice a C.length cap) C) :
    Calls Try.prog 11 #[.agg #[.slice a C.length cap,.int .i64 (r:Nat)]] w fun e w'=>∃ v zl l,e=.returned v/\Poly w' w'.heap.size v zl/\Canon l (pl2 C r)/\Canon zl (coefL (cwL l))/\Below w.heap.size w w':=by
 have HHO:=hidHR (homflyOf_any C r hm h8)
 obtain⟨-,-,s3,-⟩:=sizeB_iff (may_size hm)
 have HSU:Hid (Sup 80 (pl2 C r)):=(pl2_sup _ _ (by omega)).mono (by omega)
 have HSZ:Hid (∀ l,Canon l (pl2 C r)->szL l<=1000000000000000):=fun l h=>pl2_sz h h8 (by omega)
 obtain⟨V,hV⟩:∃ V,w.alloc (.cells #[.slice a C.length cap,.int .i64 (r:Nat)] 24)=V:=⟨_,rfl⟩
 have hBV:Below w.heap.size w V:=by rw[<-hV];exact(Below.refl _ _).alloc (Nat.le_refl _) _
 have hbV:V.heap[w.heap.size]?=some (.cells #[.slice a C.length cap,.int .i64 (r:Nat)] 24 (0,0)):=by rw[<-hV];exact alloc_at rfl
 have c0:V.cell? ⟨w.heap.size,0,none⟩=some (.slice a C.length cap):=block_cell hbV rfl
 have c1:V.cell? ⟨w.heap.size,1,none⟩=some (.int .i64 (r:Nat)):=block_cell hbV rfl
 have lV:w.heap.size<V.heap.size:=(Array.getElem?_eq_some_iff.1 hbV).1
 have HV:=hidHR hV
 have HBV:=hidHR hBV
 have HDV:=hidHR (hD.up hBV)
 clear hV hbV hBV hD hm h8 s3
 go_enter Try.func11,Try.ntmps11
 go_upto_region 1 with(fail)
 rw[HV.out]
 go_wp2_with (go_at_call 9;refine(HHO.out a cap V HDV.out).mono ?_;rintro e9 w2 ⟨v2,l,rfl,hp2,hcan,hb2⟩;refine Hid.out ?_)
 refine Lib.hid ?_
 have HP:=hidHR hp2
 have HCAN:=hidHR hcan
 obtain⟨al,cl,rfl⟩:=slice_of hp2
 have HB2:=hidHR (HBV.out.trans (hb2.mono HBV.out.size))
 have hlen:=canon_few hcan HSU.out (by decide)
 clear hp2 hcan hb2 c0 c1 lV HHO HDV HBV HV
 go_wp2
 go_loopw [4,5] (fun v4 v5 ws=>∃ (i:Nat) (zl:List (Int×Int)),i<=l.length/\v5=.int .i64 (i:Nat)/\PolyC ws ws.heap.size v4 zl/\Hid (Canon zl (coefL ((cwL l).take i)))/\Below w2.heap.size w2 ws) (fun _ v5 _=>l.length-(intOf v5).toNat)
 case atStart => exact ⟨0, [], Nat.zero_le _, rfl, ⟨Or.inl ⟨rfl, rfl⟩, none, 0, 0, rfl, Nat.le_refl _, by unfold maxLen; omega⟩, ⟨List.Pairwise.nil, fun x c => ⟨fun h => (by cases h), fun h => (by
  obtain⟨h1,h2⟩:=h
  have h1:(0:Int)=c:=h1
  omega)⟩⟩,Below.refl _ _⟩
 case round=>
  rename World=>W3
  obtain⟨i,zl,hil,rfl,hpn,hcn,hb⟩:=hrel
  by_cases hi:i<l.length
  · obtain⟨b,off,rfl,hbb,hTa⟩:=polyU_at HP.out (by omega)
    have hrow:=hTa.on hb hbb i hi
    have HNX:=hidHR (coefL_take (cwL l) i (by unfold cwL;simpa using hi))
    rw[cwL_at l i hi]at HNX
    have hin:=canon_in HCAN.out HSU.out (l.getD i (0,0)) (by rw[List.getD_eq_getElem?_getD,List.getElem?_eq_getElem hi];exact List.getElem_mem hi)
    have hcb : -1000000000000000<=(l.getD i (0,0)).2/\(l.getD i (0,0)).2<=1000000000000000:=by
     have h1:=((HCAN.out.2 (l.getD i (0,0)).1 (l.getD i (0,0)).2).1 (by rw[List.getD_eq_getElem?_getD,List.getElem?_eq_getElem hi];exact List.getElem_mem hi)).1
     have h2:=Nat.le_trans (coefL_sz l (l.getD i (0,0)).1) (HSZ.out l HCAN.out)
     rw[canon_coef HCAN.out,h1]at h2
     omega
    generalize (l.getD i (0,0)).1=e at hrow HNX hin
    generalize (l.getD i (0,0)).2=c at hrow HNX hcb
    obtain⟨x1,hx1⟩:∃ x1,dx e=x1:=⟨_,rfl⟩
    obtain⟨z1,hz1⟩:∃ z1,dz e=z1:=⟨_,rfl⟩
    have hbx : -80<=z1/\z1<=80:=by unfold Inb at hin;omega
    rw[hx1,hz1]at hrow
    rw[hz1]at HNX
    have HB1:Hid (∀ k x,(coefL ((cwL l).take k) x).natAbs<=1000000000000000):=fun k x=>Nat.le_trans (coefL_sz _ x) (Nat.le_trans (szL_take _ k) (by rw[cwL_sz];exact HSZ.out l HCAN.out))
    have HCN:=hidHR hcn.out
    have HPN:=hidHR hpn
    have HROW:=hidHR hrow
    have HBY:=hidHR hb
    have hsy:=hb.size
    have hbw:b<W3.heap.size:=by omega
    have n0:(0:Int)<=(i:Int):=by omega
    have n1:(i:Int)<(l.length:Int):=by omega
    have HZL:=hidHR (cw_few HCN.out HCAN.out HSU.out)
    have HPT:=hidHR (fun(W:World) (hW:Below W3.heap.size W3 W)=>put_poly _ zl z1 c W (by have:=HZL.out;omega) (by omega) (by omega) (canon_bdN HCN.out (HB1.out i) (by decide)) (HPN.out.up hW))
    clear hpn hcn hb hTa hrow hx1 hz1 hin
    have HSa:Hid (∀ W,Below W3.heap.size W3 W->(fun X':World=>X'.cell? ⟨b,off+i*3+1,none⟩=some (.int .i64 z1)/\X'.cell? ⟨b,off+i*3+2,none⟩=some (.int .i64 c)) W):=fun W hW=>⟨bcell hW hbw HROW.out.2.1,bcell hW hbw HROW.out.2.2⟩
    have HDa:Hid (Below W3.heap.size W3 W3.drew):=(Below.refl _ _).drew
    go_upto_region 6 with(fail)
    refine rhd HSa HDa.out (fun hHeld=>?_)
    refine tq 14 0 (h:=?_)
    refine tq 15 1 (h:=?_)
    refine tq 16 2 (h:=?_)
    refine tq 17 3 (h:=?_)
    refine tq 18 4 (h:=?_)
    refine tq 19 5 (h:=?_)
    refine tq 20 6 (h:=?_)
    refine tq 21 7 (h:=?_)
    refine tq 22 8 (h:=?_)
    refine tq 23 9 (h:=?_)
    refine tq 24 10 (h:=?_)
    simp only[List.setIfInBounds_toArray,List.set_cons_succ,List.set_cons_zero]
    refine rd1 11 ?_
    intro K0 hK0
    go_simp
    go_wp2_with (go_at_call 22;refine(HPT.out _ HDa.out).mono ?_;rintro e9 wa ⟨va,rfl,hpa,hba⟩)
    have HPa:=hidHR hpa
    have HBa:=hidHR (HDa.out.trans hba)
    clear hpa hba
    refine hK0.out _ _ (HSa.out _ HBa.out) (fun hHeld=>?_)
    clear hK0 K0
    try simp only[Act.put]
    try simp only[List.getElem_toArray]
    try simp only[List.getElem_cons_succ]
    try simp only[List.getElem_cons_zero]
    try      refine tq 4 12 (h:=?_)
    simp only[List.setIfInBounds_toArray,List.set_cons_succ,List.set_cons_zero]
    refine wpAnyH_done (by kernel_rfl) ?_ _
    clear hHeld
    have HBQ:=hidHR (HBY.out.trans (HBa.out.mono HBY.out.size))
    go_wp2
    go_roundw
    case rel=>
     refine⟨i+1,_,by omega,by go_num,HPa.out,?_,HBQ.out⟩
     exact canon_congr (canon_put HCN.out z1 c) fun y=>(HNX.out y).symm
    case measure=>simp only[intOf];omega
  · obtain rfl:i=l.length:=by omega
    have hdi2:¬ (l.length:Int)<(l.length:Int):=by omega
    have HPN:=hidHR hpn
    have HCN : Hid (Canon zl (coefL (cwL l))) := (by
     have:=hcn.out
     rwa [List.take_of_length_le (by unfold cwL;simp)]at this:Canon zl (coefL (cwL l)))
    have HBQ:=hidHR (HB2.out.trans (hb.mono HB2.out.size))
    clear hpn hcn hb
    go_wp2
    go_ret
    exact⟨_,rfl,zl,HPN.out.1,l,HCAN.out,HCN.out,HBQ.out⟩
end Go.Proofs.Ytefooihnoajnlaa.Poly
/- The walk of knotworklaw.sameTwos. -/
namespace Go.Proofs.Ytefooihnoajnlaa.Poly
open Go.RowKit
set_option maxHeartbeats 1000000
set_option maxRecDepth 100000
theorem sameU_len (a1 a2 : Option Addr) (n1 n2 c1 c2 : Nat) (w : World) (h : n1 ≠ n2) :
    Calls Try.prog 8 #[.slice a1 n1 c1,.slice a2 n2 c2] w fun e w'=>e=.returned (.bool false)/\Below w.heap.size w w':=by
 have hb:((n1:Int) != (n2:Int))=true:=by rw[bne_iff_ne];omega
 go_enter Try.func8,Try.ntmps8
 go_wp2
 go_ret
 exact⟨rfl,Below.refl _ _⟩
theorem sameU_none (a1 a2 : Option Addr) (c1 c2 : Nat) (w : World) :
    Calls Try.prog 8 #[.slice a1 0 c1,.slice a2 0 c2] w fun e w'=>e=.returned (.bool true)/\Below w.heap.size w w':=by
 go_enter Try.func8,Try.ntmps8
 go_wp2
 go_loopw [5] (fun i wr=>i=.int .i64 0/\Below w.heap.size w wr) (fun _ _=>0)
 case atStart=>exact⟨rfl,Below.refl _ _⟩
 case round=>
  obtain⟨rfl,hb⟩:=hrel
  go_wp2
  go_ret
  exact⟨rfl,hb⟩
theorem eqU (a b c d e f:Int) (w:World):(Op.equalIn 10000 51 (.agg #[.int .i64 a,.int .i64 b,.int .i64 e]) (.agg #[.int .i64 c,.int .i64 d,.int .i64 f])).run Try.prog w=.ok (a==c&&(b==d&&e==f)) w:=by
 have u3:=Try.underlying3
 have a3:=Try.isAgg3
 have z3:=Try.sizeOf3
 have hS:Try.prog.underlying 51=some (.struct (Try.prog.fieldsOf 51)):=by kernel_rfl
 have hp:Try.prog.stoodInHeld 51=false:=by kernel_rfl
 rw[show(10000:Nat)=9999+1 from rfl,run_equalIn_agg w 9999 51 _ _ hS hp]
 simp only[Program.fieldsOf,Try.underlying51]
 go_simp
 by_cases h1:a=c<;>by_cases h2:b=d<;>by_cases h3:e=f<;>simp[h1,h2,h3]
theorem neqU (a b c d e f:Int) (w:World):(binOp .neq 51 (.agg #[.int .i64 a,.int .i64 b,.int .i64 e]) (.agg #[.int .i64 c,.int .i64 d,.int .i64 f])).run Try.prog w=.ok (.bool (!(a==c&&(b==d&&e==f)))) w:=by
 rw[run_neq_struct,eqU]
 rfl
theorem sameU_some (b1 off1 c1 b2 off2 c2 n : Nat) (l1 l2 : List (Int × Int)) (w : World) (hn : n ≤ maxLen) (hb1 : b1 < w.heap.size) (hb2 : b2 < w.heap.size) (e1 : n = l1.length) (e2 : n = l2.length) (h1 : TwosAt w b1 off1 l1) (h2 : TwosAt w b2 off2 l2) :
    Calls Try.prog 8 #[.slice (some ⟨b1,off1,none⟩) n c1,.slice (some ⟨b2,off2,none⟩) n c2] w fun e w'=>∃ r:Bool,e=.returned (.bool r)/\(r=true↔∀ i,i<n->l1.getD i (0,0)=l2.getD i (0,0))/\Below w.heap.size w w':=by
 unfold maxLen at hn
 have H1:=hidHR h1
 have H2:=hidHR h2
 have HE:Hid (n=l1.length/\n=l2.length):=⟨e1,e2⟩
 clear h1 h2 e1 e2
 have hne:((n:Int) != (n:Int))=false:=by simp
 go_enter Try.func8,Try.ntmps8
 go_wp2
 go_loopw [5] (fun i wr=>∃ k:Nat,k<=n/\i=.int .i64 k/\Below w.heap.size w wr/\Hid (∀ i,i<k->l1.getD i (0,0)=l2.getD i (0,0))) (fun i _=>n-(intOf i).toNat)
 case atStart=>exact⟨0,Nat.zero_le _,rfl,Below.refl _ _,fun i hi=>absurd hi (Nat.not_lt_zero _)⟩
 case round=>
  obtain⟨k,hk,rfl,hb,hall⟩:=hrel
  by_cases hlt:k<n
  · obtain⟨q0,q1,q2⟩:=H1.out.on hb hb1 k (by have:=HE.out.1;omega)
    obtain⟨q3,q4,q5⟩:=H2.out.on hb hb2 k (by have:=HE.out.2;omega)
    obtain⟨u,hu⟩:∃ u,l1.getD k (0,0)=u:=⟨_,rfl⟩
    obtain⟨v,hv⟩:∃ v,l2.getD k (0,0)=v:=⟨_,rfl⟩
    rw[hu]at q0 q1 q2
    rw[hv]at q3 q4 q5
    obtain⟨u1,u2⟩:=u
    obtain⟨v1,v2⟩:=v
    obtain⟨x1,hx1⟩:∃ x1,dx u1=x1:=⟨_,rfl⟩
    obtain⟨z1,hz1⟩:∃ z1,dz u1=z1:=⟨_,rfl⟩
    obtain⟨x2,hx2⟩:∃ x2,dx v1=x2:=⟨_,rfl⟩
    obtain⟨z2,hz2⟩:∃ z2,dz v1=z2:=⟨_,rfl⟩
    have d1:=(dxz u1).1
    have d2:=(dxz v1).1
    rw[hx1]at q0 d1
    rw[hz1]at q1 d1
    rw[hx2]at q3 d2
    rw[hz2]at q4 d2
    have HH : Hid (l1.getD k (0, 0) = l2.getD k (0, 0) ↔ (x1 = x2 ∧ z1 = z2 ∧ u2 = v2)) := (by
     rw[hu,hv,Prod.mk.injEq]
     constructor
     · rintro⟨rfl,rfl⟩;exact⟨hx1.symm.trans hx2,hz1.symm.trans hz2,rfl⟩
     · rintro⟨rfl,rfl,rfl⟩;exact⟨by omega,rfl⟩:_↔_)
    clear hu hv hx1 hz1 hx2 hz2 d1 d2
    have hcmp:=fun W=>neqU x1 z1 x2 z2 u2 v2 W
    by_cases hsame:x1=x2/\z1=z2/\u2=v2
    · have hv:(!(x1==x2&&(z1==z2&&u2==v2)))=false:=by simp[hsame]
      rw[hv]at hcmp
      have HS:=hidHR (HH.out.2 hsame)
      clear hsame hv
      go_wp2
      go_quiet (fail)
      go_wp2
      go_roundw
      case rel => exact ⟨k + 1, by omega, by go_num, below_drewN hb _, fun i hi => by
       by_cases hik:i=k
       · subst hik;exact HS.out
       · exact hall.out i (by omega)⟩
      case measure=>simp[intOf];omega
    · have hv : (!(x1 == x2 && (z1 == z2 && u2 == v2))) = true := by
        cases hh:(x1==x2&&(z1==z2&&u2==v2)) with
        |false=>rfl
        |true=>exact absurd (by simpa using hh) hsame
      rw[hv]at hcmp
      have HS:=hidHR (fun q=>hsame (HH.out.1 q))
      clear hsame hv
      go_wp2
      go_quiet (fail)
      go_wp2
      go_ret
      refine⟨false,rfl,⟨fun h=>(by cases h),fun h=>?_⟩,below_drewN hb _⟩
      exact absurd (h k hlt) HS.out
  · go_wp2
    go_ret
    obtain rfl:k=n:=by omega
    exact⟨true,rfl,⟨fun _=>hall.out,fun _=>rfl⟩,hb⟩
theorem PolyU.slice {w:World} {B:Nat} {v:Value} {l:List (Int×Int)} (h:PolyU w B v l):∃ a cap,v=.slice a l.length cap/\(0<l.length->∃ b off,a=some ⟨b,off,none⟩/\b<B/\TwosAt w b off l):=by
 rcases h with⟨rfl,rfl⟩|⟨b,off,cap,rfl,-,-,hlt,hT⟩
 · exact⟨none,0,rfl,fun h=>absurd h (by simp)⟩
 · exact⟨some ⟨b,off,none⟩,cap,rfl,fun _=>⟨b,off,rfl,hlt,hT⟩⟩
theorem same_two (v1 v2 : Value) (l1 l2 : List (Int × Int)) (w : World) (hl : l1.length ≤ maxLen) (h1 : PolyU w w.heap.size v1 l1) (h2 : PolyU w w.heap.size v2 l2) :
    Calls Try.prog 8 #[v1,v2] w fun e w'=>e=.returned (.bool (decide (l1=l2)))/\Below w.heap.size w w':=by
 obtain⟨a1,c1,rfl,g1⟩:=h1.slice
 obtain⟨a2,c2,rfl,g2⟩:=h2.slice
 by_cases hne:l1.length=l2.length
 · rcases Nat.eq_zero_or_pos l1.length with h0|h0
   · have e1:l1=[]:=List.length_eq_zero_iff.1 h0
     have e2:l2=[]:=List.length_eq_zero_iff.1 (by omega)
     subst e1 e2
     exact sameU_none a1 a2 c1 c2 w
   · obtain⟨b1,off1,rfl,hb1,hT1⟩:=g1 h0
     obtain⟨b2,off2,rfl,hb2,hT2⟩:=g2 (by omega)
     rw[<-hne]
     refine(sameU_some b1 off1 c1 b2 off2 c2 l1.length l1 l2 w hl hb1 hb2 rfl hne hT1 hT2).mono ?_
     rintro e w' ⟨r,rfl,hr,hb⟩
     refine⟨ret_bool ?_,hb⟩
     by_cases h:l1=l2
     · rw[decide_eq_true h];exact(hr.2 (fun i _=>by rw[h])).symm
     · rw[decide_eq_false h]
       cases r
       · rfl
       · exact absurd (list_ext_getD hne (fun i hi=>by rw[hr.1 rfl i hi];exact⟨rfl,rfl⟩)) h
 · refine(sameU_len a1 a2 l1.length l2.length c1 c2 w hne).mono ?_
   rintro e w' ⟨rfl,hb⟩
   refine⟨ret_bool ?_,hb⟩
   exact decide_eq_false (fun h=>hne (by rw[h]))
end Go.Proofs.Ytefooihnoajnlaa.Poly
/- The law HomflyTells: its walk, the rings of FaceRings being given. -/
namespace Go.Proofs.Ytefooihnoajnlaa
open Go.RowKit
set_option maxHeartbeats 8000000
set_option maxRecDepth 100000
theorem sl_CrsW {w:World} {B:Nat} {v:Value} {C:List Cr} (h:CrsW w B v C):∃ a c,v=.slice a C.length c:=by
 rcases h with⟨rfl,rfl⟩|⟨ad,cap,rfl,rfl⟩|⟨b,off,cap,rfl,-,-⟩
 · exact⟨_,_,rfl⟩
 · exact⟨_,_,rfl⟩
 · exact⟨_,_,rfl⟩
theorem few8_any (a : Option Addr) (cap : Nat) (C : List Cr) (loops : Int) (w : World) (h : Crs w w.heap.size (.slice a C.length cap) C) :
    Calls Try.prog 7 #[.agg #[.slice a C.length cap,.int .i64 loops],.int .i64 8] w fun e w'=>e=.returned (.int .i64 (Poly.hmN C loops))/\Below w.heap.size w w':=by
 have HC:Hid (Crs w w.heap.size (.slice a C.length cap) C):=h
 obtain⟨w0,hw0⟩:∃ w0,w0=w.alloc (.cells #[.slice a C.length cap,.int .i64 loops] 24):=⟨_,rfl⟩
 have HW0:Hid (w0=w.alloc (.cells #[.slice a C.length cap,.int .i64 loops] 24)):=hw0
 have HB0:Hid (Below w.heap.size w w0):=(by rw[hw0];exact(Below.refl _ _).alloc (Nat.le_refl _) _:Below w.heap.size w w0)
 have HT0:Hid (w0.heap[w.heap.size]?=some (.cells #[.slice a C.length cap,.int .i64 loops] 24 (0,0))):=(by rw[hw0];exact alloc_at rfl:w0.heap[w.heap.size]?=some (.cells #[.slice a C.length cap,.int .i64 loops] 24 (0,0)))
 clear hw0 h
 go_enter Try.func7,Try.ntmps7
 go_wp2_with (go_at_call 16;rw[<-HW0.out];refine(planarMay_any _ C loops _ (HC.out.up HB0.out)).mono ?_;rintro e9 w3 ⟨rfl,hb3⟩;refine Hid.out ?_)
 refine Lib.hid ?_
 have HB3:Hid (Below w.heap.size w w3):=HB0.out.trans (hb3.mono HB0.out.size)
 have q:=(hb3.block _ (Array.getElem?_eq_some_iff.1 HT0.out).1).trans HT0.out
 have t0:w3.cell? ⟨w.heap.size,0,none⟩=some (.slice a C.length cap):=block_cell q rfl
 have t1:w3.cell? ⟨w.heap.size,1,none⟩=some (.int .i64 loops):=block_cell q rfl
 clear hb3 q
 have HFE : Hid (Poly.hmN C loops = if noN C loops = 0 ∧ 8 < C.length then 2 else noN C loops) := (by
  unfold Poly.hmN
  by_cases q:noN C loops=0
  · rw[if_neg (fun z=>z q)]
    by_cases q2:8<C.length
    · rw[if_pos q2,if_pos ⟨q,q2⟩]
    · rw[if_neg q2,if_neg (fun z=>q2 z.2),q]
  · rw[if_pos q,if_neg (fun z=>q z.1)]:Poly.hmN C loops=if noN C loops=0/\8<C.length then 2 else noN C loops)
 generalize noN C loops=r at*
 by_cases hr:r=0
 · subst hr
   by_cases hz:8<C.length
   · have hz1:decide ((8:Int)<(C.length:Int))=true:=by simp;omega
     have HE:Hid (Poly.hmN C loops=2):=HFE.out.trans (if_pos ⟨rfl,hz⟩)
     go_wp2
     go_ret
     exact⟨by rw[HE.out];rfl,HB3.out⟩
   · have hz1:decide ((8:Int)<(C.length:Int))=false:=by simp;omega
     have HE:Hid (Poly.hmN C loops=0):=HFE.out.trans (if_neg (fun q=>hz q.2))
     go_wp2
     go_ret
     exact⟨by rw[HE.out];rfl,HB3.out⟩
 · have hr0:(r==0)=false:=beq_eq_false_iff_ne.2 hr
   have HE:Hid (Poly.hmN C loops=r):=HFE.out.trans (if_neg (fun q=>hr q.1))
   go_wp2
   go_ret
   exact⟨by rw[HE.out];rfl,HB3.out⟩
theorem homflyTells_bad (hFR : FaceRingsOk) (v : Value) (C : List Cr) (loops : Int) (w : World) (hl : C.length * 40 ≤ 140737488355328) (h : CrsW w w.heap.size v C) (hn : Poly.hmN C loops ≠ 0) :
    Calls Try.prog 3 #[.agg #[v,.int .i64 loops]] w fun e w'=>e=.returned (.bool true)/\Below w.heap.size w w':=by
 have HL:=hidHR hl
 have HH1:Hid (∀ v W,Crs W W.heap.size v C->Calls Try.prog 4 #[.agg #[v,.int .i64 loops]] W fun e w'=>e=.returned (.tuple #[.slice none 0 0,.int .i64 (Poly.hmN C loops)])/\Below W.heap.size W w'):=fun v W hW=>by
  obtain⟨a',c',rfl,q⟩:=hW
  refine(Poly.homfly_any hFR a' c' C loops W ⟨a',c',rfl,q⟩).mono ?_
  rintro e w' ⟨⟨-,q1⟩|⟨q0,-⟩,hb⟩
  · exact⟨q1,hb⟩
  · exact absurd q0 hn
 have HH2:Hid (∀ v W,Crs W W.heap.size v C->Calls Try.prog 6 #[.agg #[v,.int .i64 loops]] W fun e w'=>e=.returned (.tuple #[.slice none 0 0,.int .i64 (Poly.hmN C loops)])/\Below W.heap.size W w'):=fun v W hW=>by
  obtain⟨a',c',rfl,q⟩:=hW
  refine(Poly.conway_any hFR a' c' C loops W ⟨a',c',rfl,q⟩).mono ?_
  rintro e w' ⟨⟨-,q1⟩|⟨q0,-⟩,hb⟩
  · exact⟨q1,hb⟩
  · exact absurd q0 hn
 have HFW:Hid (∀ a cap W,Crs W W.heap.size (.slice a C.length cap) C->Calls Try.prog 7 #[.agg #[.slice a C.length cap,.int .i64 loops],.int .i64 8] W fun e w'=>e=.returned (.int .i64 (Poly.hmN C loops))/\Below W.heap.size W w'):=fun a cap W hW=>few8_any a cap C loops W hW
 generalize Poly.hmN C loops=r at hn HH1 HH2 HFW
 have hr0:(r==0)=false:=beq_eq_false_iff_ne.2 hn
 have hrr:(r==r)=true:=beq_self_eq_true r
 obtain⟨a,cap,rfl⟩:=sl_CrsW h
 obtain⟨w0,hw0⟩:∃ w0,w0=w.alloc (.cells #[.slice a C.length cap,.int .i64 loops] 24):=⟨_,rfl⟩
 have HW0:Hid (w0=w.alloc (.cells #[.slice a C.length cap,.int .i64 loops] 24)):=hw0
 have hs0:w0.heap.size=w.heap.size+1:=by rw[hw0];simp
 have HB0:Hid (Below w.heap.size w w0):=(by rw[hw0];exact(Below.refl _ _).alloc (Nat.le_refl _) _:Below w.heap.size w w0)
 have HT0:Hid (w0.heap[w.heap.size]?=some (.cells #[.slice a C.length cap,.int .i64 loops] 24 (0,0))):=(by rw[hw0];exact alloc_at rfl:w0.heap[w.heap.size]?=some (.cells #[.slice a C.length cap,.int .i64 loops] 24 (0,0)))
 have HCW:Hid (∀ w',Below w0.heap.size w0 w'->CrsW w' w'.heap.size (.slice a C.length cap) C):=fun w' hb=>(h.up HB0.out).up hb
 have HCC:Hid (∀ w',Below w0.heap.size w0 w'->Crs w' w'.heap.size (.slice a C.length cap) C):=fun w' hb=>(HCW.out w' hb).crs (by have:=HL.out;unfold maxLen;omega)
 have HF:Hid (∀ w',Below w0.heap.size w0 w'->w'.cell? ⟨w.heap.size,0,none⟩=some (.slice a C.length cap)/\w'.cell? ⟨w.heap.size,1,none⟩=some (.int .i64 loops)/\w.heap.size<w'.heap.size):=fun w' hw'=>by
  have g0:=(hw'.block _ (by omega)).trans HT0.out
  exact⟨block_cell g0 rfl,block_cell g0 rfl,(Array.getElem?_eq_some_iff.1 g0).1⟩
 clear hw0 h hl hn hFR
 go_enter Try.func3,Try.ntmps3
 go_wp2_with (go_at_call 5;rw[<-HW0.out];refine(diagramOf_any _ C loops _ HL.out (HCW.out _ (Below.refl _ _))).mono ?_;rintro e9 w1 ⟨v1,rfl,hc1,hb1⟩;refine Hid.out ?_)
 refine Lib.hid ?_
 have HB1:=hidHR hb1
 have HC1:=hidHR hc1
 clear hb1 hc1
 go_wp2_with (go_at_call 4;refine(HH1.out v1 _ HC1.out).mono ?_;rintro e9 w2 ⟨rfl,hb2⟩;refine Hid.out ?_)
 refine Lib.hid ?_
 have HB2:=hidHR (HB1.out.trans (hb2.mono HB1.out.size))
 clear hb2
 obtain⟨p0,p1,p2⟩:=HF.out w2 HB2.out
 go_wp2_with (go_at_call 5;refine(diagramOf_any _ C loops _ HL.out (HCW.out _ HB2.out)).mono ?_;rintro e9 w3 ⟨v3,rfl,hc3,hb3⟩;refine Hid.out ?_)
 refine Lib.hid ?_
 have HB3:=hidHR (HB2.out.trans (hb3.mono HB2.out.size))
 have HC3:=hidHR hc3
 clear hb3 hc3 p0 p1 p2
 go_wp2_with (go_at_call 6;refine(HH2.out v3 _ HC3.out).mono ?_;rintro e9 w4 ⟨rfl,hb4⟩;refine Hid.out ?_)
 refine Lib.hid ?_
 have HB4:=hidHR (HB3.out.trans (hb4.mono HB3.out.size))
 clear hb4
 obtain⟨p0,p1,p2⟩:=HF.out w4 HB4.out
 go_wp2_with (go_at_call 7;refine(HFW.out a cap _ (HCC.out _ HB4.out)).mono ?_;rintro e9 w5 ⟨rfl,hb5⟩;refine Hid.out ?_)
 refine Lib.hid ?_
 have HB5:=hidHR (HB4.out.trans (hb5.mono HB4.out.size))
 clear hb5 p0 p1 p2
 go_wp2
 go_ret
 exact⟨by first|rfl|simp,HB0.out.trans (HB5.out.mono HB0.out.size)⟩
theorem homflyTells_yes (hFR : FaceRingsOk) (v : Value) (C : List Cr) (r : Nat) (w : World) (hl : C.length * 40 ≤ 140737488355328) (h : CrsW w w.heap.size v C) (hn : Poly.hmN C (r : Nat) = 0) (hm : mayD C (r : Nat) = true) (h8 : C.length ≤ 8) :
    Calls Try.prog 3 #[.agg #[v,.int .i64 (r:Nat)]] w fun e w'=>e=.returned (.bool true)/\Below w.heap.size w w':=by
 have HL:=hidHR hl
 have HH1:Hid (∀ v W,Crs W W.heap.size v C->Calls Try.prog 4 #[.agg #[v,.int .i64 (r:Nat)]] W fun e w'=>∃ v l,e=.returned (.tuple #[v,.int .i64 0])/\Poly.PolyU w' w'.heap.size v l/\Hid (Poly.Canon l (pl2 C r))/\l.length<=800001/\Below W.heap.size W w'):=fun v W hW=>by
  obtain⟨a',c',rfl,q⟩:=hW
  refine(Poly.homfly_any hFR a' c' C (r:Nat) W ⟨a',c',rfl,q⟩).mono ?_
  rintro e w' ⟨⟨q0,-⟩|⟨-,v,l,q1,q2,q3,q4⟩,hb⟩
  · exact absurd hn q0
  · exact⟨v,l,q1,q2,q3,q4,hb⟩
 have HH2:Hid (∀ v W,Crs W W.heap.size v C->Calls Try.prog 6 #[.agg #[v,.int .i64 (r:Nat)]] W fun e w'=>∃ v l lz,e=.returned (.tuple #[v,.int .i64 0])/\Poly.Poly w' w'.heap.size v lz/\Hid (Poly.Canon l (pl2 C r))/\Hid (Poly.Canon lz (Poly.coefL (Poly.cwL l)))/\lz.length<=800001/\Below W.heap.size W w'):=fun v W hW=>by
  obtain⟨a',c',rfl,q⟩:=hW
  refine(Poly.conway_any hFR a' c' C (r:Nat) W ⟨a',c',rfl,q⟩).mono ?_
  rintro e w' ⟨⟨q0,-⟩|⟨-,v,l,lz,q1,q2,q3,q4,q5⟩,hb⟩
  · exact absurd hn q0
  · exact⟨v,l,lz,q1,q2,q3,q4,q5,hb⟩
 have HFW:Hid (∀ a cap W,Crs W W.heap.size (.slice a C.length cap) C->Calls Try.prog 7 #[.agg #[.slice a C.length cap,.int .i64 (r:Nat)],.int .i64 8] W fun e w'=>e=.returned (.int .i64 0)/\Below W.heap.size W w'):=fun a cap W hW=>by
  have:=few8_any a cap C (r:Nat) W hW
  rwa [hn]at this
 have HHO:Hid (∀ a cap W,Crs W W.heap.size (.slice a C.length cap) C->Calls Try.prog 9 #[.agg #[.slice a C.length cap,.int .i64 (r:Nat)]] W fun e w'=>∃ v l,e=.returned v/\Poly.PolyU w' w'.heap.size v l/\Poly.Canon l (pl2 C r)/\Below W.heap.size W w'):=fun a cap W hW=>Poly.homflyOf_any C r hm h8 a cap W hW
 have HCO:Hid (∀ a cap W,Crs W W.heap.size (.slice a C.length cap) C->Calls Try.prog 11 #[.agg #[.slice a C.length cap,.int .i64 (r:Nat)]] W fun e w'=>∃ v zl l,e=.returned v/\Poly.Poly w' w'.heap.size v zl/\Poly.Canon l (pl2 C r)/\Poly.Canon zl (Poly.coefL (Poly.cwL l))/\Below W.heap.size W w'):=fun a cap W hW=>Poly.conwayOf_any a cap C r W hm h8 hW
 obtain⟨a,cap,rfl⟩:=sl_CrsW h
 obtain⟨w0,hw0⟩:∃ w0,w0=w.alloc (.cells #[.slice a C.length cap,.int .i64 (r:Nat)] 24):=⟨_,rfl⟩
 have HW0:Hid (w0=w.alloc (.cells #[.slice a C.length cap,.int .i64 (r:Nat)] 24)):=hw0
 have hs0:w0.heap.size=w.heap.size+1:=by rw[hw0];simp
 have HB0:Hid (Below w.heap.size w w0):=(by rw[hw0];exact(Below.refl _ _).alloc (Nat.le_refl _) _:Below w.heap.size w w0)
 have HT0:Hid (w0.heap[w.heap.size]?=some (.cells #[.slice a C.length cap,.int .i64 (r:Nat)] 24 (0,0))):=(by rw[hw0];exact alloc_at rfl:w0.heap[w.heap.size]?=some (.cells #[.slice a C.length cap,.int .i64 (r:Nat)] 24 (0,0)))
 have HCW:Hid (∀ w',Below w0.heap.size w0 w'->CrsW w' w'.heap.size (.slice a C.length cap) C):=fun w' hb=>(h.up HB0.out).up hb
 have HCC:Hid (∀ w',Below w0.heap.size w0 w'->Crs w' w'.heap.size (.slice a C.length cap) C):=fun w' hb=>(HCW.out w' hb).crs (by have:=HL.out;unfold maxLen;omega)
 have HF:Hid (∀ w',Below w0.heap.size w0 w'->w'.cell? ⟨w.heap.size,0,none⟩=some (.slice a C.length cap)/\w'.cell? ⟨w.heap.size,1,none⟩=some (.int .i64 (r:Nat))/\w.heap.size<w'.heap.size):=fun w' hw'=>by
  have g0:=(hw'.block _ (by omega)).trans HT0.out
  exact⟨block_cell g0 rfl,block_cell g0 rfl,(Array.getElem?_eq_some_iff.1 g0).1⟩
 clear hw0 h hl hn hFR hm
 go_enter Try.func3,Try.ntmps3
 go_wp2_with (go_at_call 5;rw[<-HW0.out];refine(diagramOf_any _ C (r:Nat) _ HL.out (HCW.out _ (Below.refl _ _))).mono ?_;rintro e9 w1 ⟨v1,rfl,hc1,hb1⟩;refine Hid.out ?_)
 refine Lib.hid ?_
 have HB1:=hidHR hb1
 have HC1:=hidHR hc1
 clear hb1 hc1
 go_wp2_with (go_at_call 4;refine(HH1.out v1 _ HC1.out).mono ?_;rintro e9 w2 ⟨va,l,rfl,hPa,HCA,hla,hb2⟩;refine Hid.out ?_)
 refine Lib.hid ?_
 have HB2:=hidHR (HB1.out.trans (hb2.mono HB1.out.size))
 have HPa:=hidHR hPa
 clear hb2 hPa
 obtain⟨p0,p1,p2⟩:=HF.out w2 HB2.out
 go_wp2_with (go_at_call 5;refine(diagramOf_any _ C (r:Nat) _ HL.out (HCW.out _ HB2.out)).mono ?_;rintro e9 w3 ⟨v3,rfl,hc3,hb3⟩;refine Hid.out ?_)
 refine Lib.hid ?_
 have HB23:=hidHR hb3
 have HB3:=hidHR (HB2.out.trans (hb3.mono HB2.out.size))
 have HC3:=hidHR hc3
 clear hb3 hc3 p0 p1 p2
 go_wp2_with (go_at_call 6;refine(HH2.out v3 _ HC3.out).mono ?_;rintro e9 w4 ⟨vz,l',lz,rfl,hPz,HCA',HCZ,hlz,hb4⟩;obtain rfl:=Poly.canon_unique HCA.out HCA'.out;refine Hid.out ?_)
 refine Lib.hid ?_
 have HB24:=hidHR (HB23.out.trans (hb4.mono HB23.out.size))
 have HB4:=hidHR (HB3.out.trans (hb4.mono HB3.out.size))
 have HPz:=hidHR hPz
 clear hb4 hPz HCA'
 obtain⟨p0,p1,p2⟩:=HF.out w4 HB4.out
 clear HW0 HT0 HH1 HH2
 go_wp2_with (go_at_call 7;refine(HFW.out a cap _ (HCC.out _ HB4.out)).mono ?_;rintro e9 w5 ⟨rfl,hb5⟩;refine Hid.out ?_)
 refine Lib.hid ?_
 have HB25:=hidHR (HB24.out.trans (hb5.mono HB24.out.size))
 have HB5:=hidHR (HB4.out.trans (hb5.mono HB4.out.size))
 have HPz5:=hidHR (HPz.out.up hb5)
 clear hb5 p0 p1 p2 HPz
 obtain⟨p0,p1,p2⟩:=HF.out w5 HB5.out
 go_wp2_with (go_at_call 9;refine(HHO.out a cap _ (HCC.out _ HB5.out)).mono ?_;rintro e9 w6 ⟨v8,l',rfl,hP8,hC8,hb6⟩;obtain rfl:=Poly.canon_unique HCA.out hC8;refine Hid.out ?_)
 refine Lib.hid ?_
 have HB26:=hidHR (HB25.out.trans (hb6.mono HB25.out.size))
 have HB6:=hidHR (HB5.out.trans (hb6.mono HB5.out.size))
 have HP8:=hidHR hP8
 have HPz6:=hidHR (HPz5.out.up hb6)
 have HPa6:=hidHR (HPa.out.up HB26.out)
 clear hb6 p0 p1 p2 hP8 hC8 HPz5 HPa
 have HS2 : Hid (Calls Try.prog 8 #[va, v8] w6 fun e w' => e = .returned (.bool true) ∧ Below w6.heap.size w6 w') := (Poly.same_two va v8 l l w6 (by unfold maxLen; omega) HPa6.out HP8.out).mono (by
  rintro e w' ⟨rfl,hb⟩
  exact⟨ret_bool (by simp),hb⟩)
 go_wp2_with (go_at_call 8;refine HS2.out.mono ?_;rintro e9 w7 ⟨rfl,hb7⟩;refine Hid.out ?_)
 refine Lib.hid ?_
 have HB7:=hidHR (HB6.out.trans (hb7.mono HB6.out.size))
 have HPz7:=hidHR (HPz6.out.up hb7)
 clear hb7 HPz6 HPa6 HP8 HS2
 obtain⟨p0,p1,p2⟩:=HF.out w7 HB7.out
 go_wp2_with (go_at_call 11;refine(HCO.out a cap _ (HCC.out _ HB7.out)).mono ?_;rintro e9 w8 ⟨v9,zl,l',rfl,hP9,hC9,hZ9,hb8⟩;obtain rfl:=Poly.canon_unique HCA.out hC9;obtain rfl:=Poly.canon_unique HCZ.out hZ9;refine Hid.out ?_)
 refine Lib.hid ?_
 have HB8:=hidHR (HB7.out.trans (hb8.mono HB7.out.size))
 have HPz8:=hidHR (HPz7.out.up hb8)
 have HP9:=hidHR hP9
 clear hb8 p0 p1 p2 hP9 hC9 hZ9 HPz7
 have HS3 : Hid (Calls Try.prog 10 #[vz, v9] w8 fun e w' => e = .returned (.bool true) ∧ Below w8.heap.size w8 w') := (Poly.same_poly vz v9 lz lz w8 (by unfold maxLen; omega) HPz8.out HP9.out).mono (by
  rintro e w' ⟨rfl,hb⟩
  exact⟨ret_bool (by simp),hb⟩)
 go_wp2_with (go_at_call 10;refine HS3.out.mono ?_;rintro e9 w9 ⟨rfl,hb9⟩;refine Hid.out ?_)
 refine Lib.hid ?_
 have HB9:=hidHR (HB8.out.trans (hb9.mono HB8.out.size))
 clear hb9
 go_wp2
 go_ret
 exact⟨by first|rfl|simp,HB0.out.trans (HB9.out.mono HB0.out.size)⟩
theorem homflyTells_any (hFR : FaceRingsOk) (v : Value) (C : List Cr) (loops : Int) (w : World) (hl : C.length * 40 ≤ 140737488355328) (h : CrsW w w.heap.size v C) :
    Calls Try.prog 3 #[.agg #[v,.int .i64 loops]] w fun e w'=>e=.returned (.bool true)/\Below w.heap.size w w':=by
 by_cases hn:Poly.hmN C loops=0
 · have hn2 : noN C loops = 0 ∧ C.length ≤ 8 := by
     have hn:=hn
     unfold Poly.hmN at hn
     by_cases q:noN C loops=0
     · rw[if_neg (fun z=>z q)]at hn
       by_cases q2:8<C.length
       · rw[if_pos q2]at hn;omega
       · exact⟨q,by omega⟩
     · rw[if_pos q]at hn;exact absurd hn q
   have hm:=(noN_zero hn2.1).1
   obtain⟨-,s2,-,-⟩:=sizeB_iff (may_size hm)
   obtain⟨r,rfl⟩:∃ r:Nat,loops=(r:Nat):=⟨loops.toNat,by omega⟩
   exact homflyTells_yes hFR v C r w hl h hn hm hn2.2
 · exact homflyTells_bad hFR v C loops w hl h hn
end Go.Proofs.Ytefooihnoajnlaa
