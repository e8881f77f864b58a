/- Several texts of the proof, one behind the other. -/
import Derived.Test.YtiliihlkpknhdaaDoorAD8P
import Derived.Test.YtiliihlkpknhdaaDoorPDetP
/- The walk of poly.determinant: the map that it hands back has the determinant's coefficients. -/
namespace Go.Proofs.YtiliihlkpknhdaaDoor.Poly
open Go.RowKit Go.Maps
set_option maxHeartbeats 4000000
set_option maxRecDepth 100000
theorem infoWork:(Tryd.prog.info? 60).map (fun i=>(i.zero,i.size,i.bytes))=some (some (.map none),1,8):=by kernel_rfl
theorem pow_wrap:∀ n,n<11->wrap64 (2 ^ n)=((2 ^ n:Nat):Int):=by decide +kernel
theorem bit_and:∀ s:Nat,s<1024->∀ m,m<10->bits BinOp.and IntKind.i64 ((s:Int) / 2 ^ m) 1=(((s >>> m)%2:Nat):Int):=by decide +kernel
theorem bit_not:∀ s:Nat,s<1024->∀ m,m<10->(s >>> m)%2=1->bits BinOp.andNot IntKind.i64 (s:Int) (wrap64 (2 ^ m))=((s-2 ^ m:Nat):Int):=by decide +kernel
theorem bit_shr:∀ s:Nat,s<1024->∀ m,m<10->IntKind.u64.wrap ((s:Int) / 2 ^ m)=((s >>> m:Nat):Int)/\s >>> m<1024:=by decide +kernel
theorem keysIn_none (N:Int):KeysIn (.map []:DataW Unit) N:=fun x hx=>by cases hx
theorem make46n (w:World):(Instr.makeMap 60 none).run Tryd.prog w=.ok (.map (some w.heap.size)) (w.alloc (.map #[] 0)):=rfl
def MinorAt (w:World) (T:List (List (List (Int×Int)))) (t b:Nat):Prop:=
 ∃ D:DataW Unit,w.ownsMap Tryd.prog 3 (plainElem Tryd.prog 3) b (szd (onesTo t 10)) D/\(∀ y,coefOf D y=minorF T t y)/\KeysIn D (1000*(onesTo t 10:Int))
def Minors (w:World) (B C:Nat) (T:List (List (List (Int×Int)))) (xs:List Value) (s:Nat):Prop:=
 ∀ t,t<s->∃ b,xs[t]?=some (.map (some b))/\B<b/\b<C/\MinorAt w T t b
theorem Minors.kept {w w':World} {B C s:Nat} {T:List (List (List (Int×Int)))} {xs:List Value} {row:Option Nat} (h:Minors w B C T xs s) (hg:w.grownBy w' row) (hne:∀ b,B<b->b<C->row≠some b):Minors w' B C T xs s:=by
 intro t ht
 obtain⟨b,h1,h2,h3,D,h4,h5,h6⟩:=h t ht
 exact⟨b,h1,h2,h3,D,h4.kept hg (fun e=>hne b h2 h3 e.symm),h5,h6⟩
theorem Minors.mono {w:World} {B C C' s:Nat} {T:List (List (List (Int×Int)))} {xs:List Value} (h:Minors w B C T xs s) (hC:C<=C'):Minors w B C' T xs s:=by
 intro t ht
 obtain⟨b,h1,h2,h3,h4⟩:=h t ht
 exact⟨b,h1,h2,Nat.lt_of_lt_of_le h3 hC,h4⟩
theorem minors_zero {w : World} {B C b : Nat} {T : List (List (List (Int × Int)))} {xs : List Value} (hB : B < b) (hC : b < C) (hx : xs[0]? = some (.map (some b)))
    (ho:w.ownsMap Tryd.prog 3 (plainElem Tryd.prog 3) b 1 ((DataW.map []:DataW Unit).put (.int .i64 0) (.lit (.int .i64 1)))):Minors w B C T xs 1:=by
 intro t ht
 obtain rfl:t=0:=by omega
 refine⟨b,hx,hB,hC,_,ho,fun y=>?_,keysIn_put (fun x hx=>by cases hx) (by decide) (by decide) _⟩
 rw[coefOf_put ⟨_,rfl⟩,minor_zero]
 unfold oneF
 by_cases h:(0:Int)=y
 · rw[if_pos h,if_pos h.symm]
 · rw[if_neg h,if_neg (fun e=>h e.symm)]
   exact coefOf_none rfl
theorem determinant_any (v : Value) (T : List (List (List (Int × Int)))) (n : Nat) (w : World) (hn : n ≤ 10) (hT : GoodT T n) (h : Table w w.heap.size v T) :
    Calls Tryd.prog 28 #[v] w fun e w'=>∃ (b:Nat) (D:DataW Unit),e=.returned (.map (some b))/\w.heap.size<=b/\w'.ownsMap Tryd.prog 3 (plainElem Tryd.prog 3) b (szd n) D/\(∀ y,coefOf D y=detOf T y)/\KeysIn D (1000*(n:Int))/\Below w.heap.size w w':=by
 obtain⟨i0,hi,hz0,hz1,hz2⟩:=info_parts infoWork
 obtain⟨rs,hrl,⟨a,cap,rfl,g⟩,hR⟩:=h
 have hTl:=hT.1
 obtain⟨N,hNe,hN,hN1,hN2⟩:∃ N:Nat,N=2 ^ n/\wrap64 (2 ^ n)=(N:Int)/\1<=N/\N<=1024:=⟨2 ^ n,rfl,pow_wrap n (by omega),Nat.pow_pos (by decide),Nat.pow_le_pow_right (n:=2) (by decide) hn⟩
 have HN:Hid (wrap64 (2 ^ n)=(N:Int)):=hN
 have HNe:Hid (N=2 ^ n):=hNe
 have HGT:Hid (GoodT T n):=hT
 have HR:Hid (∀ i,i<n->Row w w.heap.size (rs.getD i (.bool false)) (T.getD i [])):=fun i hi=>hR i (by omega)
 rw[hrl,hTl]at g ⊢
 have HG:Hid (0<n->∃ b off,a=some ⟨b,off,none⟩/\b<w.heap.size/\∀ i,i<n->w.cell? ⟨b,off+i,none⟩=some (rs.getD i (.bool false))):=g
 have hmm:=make46n
 clear hN hNe hT hR g hTl hrl
 go_enter Tryd.func28,Tryd.ntmps28
 go_wp2_with (first|(at_make;refine wpList_make_full _ rfl _ _ 73 rfl w.heap.size 60 i0 (.map none) 1 Tryd.underlying73 hi hz0 hz1 .i64 .i64 _ _ N rfl rfl HN.out HN.out (by rw[hz2];omega) (by unfold maxLen;omega) (Nat.le_refl _) ?_;intro w1 hrow hg1;refine Hid.out ?_))
 refine Lib.hid ?_
 have hown0:(w1.alloc (.map #[] 0)).ownsMap Tryd.prog 3 (plainElem Tryd.prog 3) w1.heap.size 0 (.map []:DataW Unit):=World.ownsMap_made _ _ _ _
 obtain⟨w2,hins,hown2,hg2⟩:=hown0.update law3 Tryd.underlying60 (by unfold maxLen;omega) (keyOf_int_mk Tryd.underlying3 (WalkArith.wf_i64 (by omega : -9223372036854775808<=(0:Int)/\(0:Int)<=9223372036854775807))) (plainElem_int Tryd.underlying3 (WalkArith.wf_i64 (by omega : -9223372036854775808<=(1:Int)/\(1:Int)<=9223372036854775807)))
 have hsz1:=hg1.size
 have hsz2:=hg2.size
 simp only[World.alloc,Array.size_push]at hsz2
 have hlt1:w.heap.size<w1.heap.size:=(hrow.lt w.heap.size rfl).2
 have hrow2:=(hrow.alloc (.map #[] 0)).kept hg2 (Or.inr (by simp[Value.ownBlock];omega))
 rw[show(madeCells (Value.map none).cells (N*1)).toList=List.replicate N (Value.map none) by rw[Nat.mul_one];exact toList_madeCells_one _ _]at hrow2
 have f0:=hrow2.frozenAt 0
 have d0:w2.cell? ⟨w.heap.size,0,none⟩=some (.map none):=by
  rw[hrow2.cellAt 0 (by omega),List.getElem?_replicate,if_pos (by omega)]
 have hB2:Below w.heap.size w w2:=(((Below.refl _ _).grown hg1 (Nat.le_refl _) (fun j hj=>by cases hj)).alloc hsz1 _).grown hg2 (by simp;omega) (fun j hj=>by cases hj;omega)
 have HST:Hid (∀ u,(w2.setCell ⟨w.heap.size,0,none⟩ u).ownsRow w.heap.size 60 1 (.slice (some ⟨w.heap.size,0,none⟩) N N) N ((List.replicate N (Value.map none)).set 0 u)/\w2.grownBy (w2.setCell ⟨w.heap.size,0,none⟩ u) (some w.heap.size)):=fun u=>hrow2.stored 0 u
 have HO2:Hid (w2.ownsMap Tryd.prog 3 (plainElem Tryd.prog 3) w1.heap.size 1 ((DataW.map []:DataW Unit).put (.int .i64 0) (.lit (.int .i64 1)))):=hown2
 have HB2:Hid (Below w.heap.size w w2):=hB2
 clear hB2 hown2 hrow2 hg1 hg2 hown0 hrow
 go_wp2
 clear hins f0 d0 hmm
 have hmm:=make46n
 go_loopw [4] (fun i wr=>∃ (s:Nat) (xs:List Value),1<=s/\s<=N/\i=.int .i64 s/\xs.length=N/\wr.ownsRow w.heap.size 60 1 (.slice (some ⟨w.heap.size,0,none⟩) N N) N xs/\Hid (Minors wr w.heap.size wr.heap.size T xs s)/\Below w.heap.size w wr) (fun i _=>N-(intOf i).toNat)
 case atStart=>
  have hst:=HST.out (.map (some w1.heap.size))
  refine⟨1,(List.replicate N (Value.map none)).set 0 (.map (some w1.heap.size)),Nat.le_refl _,hN1,rfl,by simp,hst.1,?_,HB2.out.grown hst.2 (by omega) (fun j hj=>by cases hj;omega)⟩
  exact minors_zero hlt1 (Nat.lt_of_lt_of_le (by omega) hst.2.size) (by rw[List.getElem?_set_self (by simp;omega)]) (HO2.out.kept hst.2 (fun e=>by have:=Option.some.inj e;omega))
 case round=>
  clear HST HO2 HB2 hlt1 hsz1 hsz2 w2
  rename World=>W1
  obtain⟨s,xs,hs1,hsN,rfl,hxl,hrow,hMin,hb⟩:=hrel
  by_cases hlt:s<N
  · have hs2:s<2 ^ n:=by rw[<-HNe.out];exact hlt
    have ho:=ones_le n (by omega) s hs2
    have hn1:0<n:=by omega
    obtain⟨k,hk⟩:∃ k,onesTo s 10=k+1:=⟨onesTo s 10 - 1,by have:=ho.2 hs1;omega⟩
    have hkn:k<n:=by omega
    have HK:Hid (onesTo s 10=k+1):=hk
    obtain⟨b,off,rfl,hbw,hc⟩:=HG.out hn1
    have c0:=bcell hb hbw (hc k hkn)
    obtain⟨ps,hpl,⟨a2,cap2,hv2,g2⟩,hPs⟩:=HR.out k hkn
    have hRl:(T.getD k []).length=n:=(HGT.out.2 _ (getD_mem T k [] (by rw[HGT.out.1];exact hkn))).1
    rw[hv2,hpl,hRl]at c0
    rw[hpl,hRl]at g2
    obtain⟨b2,off2,rfl,hbw2,hc2⟩:=g2 hn1
    have HC2:Hid (∀ i,i<n->w.cell? ⟨b2,off2+i,none⟩=some (ps.getD i (.bool false))):=hc2
    have HPs:Hid (∀ j,j<n->Poly w w.heap.size (ps.getD j (.bool false)) ((T.getD k []).getD j [])):=fun j hj=>hPs j (by rw[hRl];exact hj)
    have hbr:b<W1.heap.size:=Nat.lt_of_lt_of_le hbw hb.size
    have hszW:=hb.size
    clear hc hpl hv2 g2 hPs hc2 hRl ho hk hs2
    go_wp2_with (go_at_call 49;refine(ones_any s _ (by omega)).mono ?_;rw[HK.out];rintro r w3 ⟨rfl,hb3⟩;refine Hid.out ?_)
    refine Lib.hid ?_
    have hszW3:=hb3.size
    have c3:w3.cell? ⟨b,off+k,none⟩=some (.slice (some ⟨b2,off2,none⟩) n cap2):=bcell hb3 hbr c0
    have hbr3:b<w3.heap.size:=Nat.lt_of_lt_of_le hbr hszW3
    have hg3:W1.grownBy (w3.alloc (.map #[] 0)) none:=grown_trans (grown_below hb3 none) (World.grownBy_alloc _ _ _)
    have hrow3:=hrow.kept hg3 (Or.inr (by simp[Value.ownBlock]))
    have hlow:w.heap.size<W1.heap.size:=(hrow.lt w.heap.size rfl).2
    have HM3:Hid (Minors (w3.alloc (.map #[] 0)) w.heap.size w3.heap.size T xs s):=(hMin.out.kept hg3 (by simp)).mono hszW3
    have HO3:Hid ((w3.alloc (.map #[] 0)).ownsMap Tryd.prog 3 (plainElem Tryd.prog 3) w3.heap.size 0 (.map []:DataW Unit)):=World.ownsMap_made _ _ _ _
    have HB3:Hid (Below w.heap.size w (w3.alloc (.map #[] 0))):=(hb.trans (hb3.mono hszW)).alloc (by omega) _
    clear c0 hrow hMin hb hb3 hg3
    go_wp2
    clear c3
    go_loopw [34] (fun i ws => ∃ (m np : Nat) (D : DataW Unit), m ≤ n ∧ i = .int .i64 m ∧ ws.ownsRow w.heap.size 60 1 (.slice (some ⟨w.heap.size, 0, none⟩) N N) N xs ∧ Hid (Minors ws w.heap.size w3.heap.size T xs s) ∧
        ws.ownsMap Tryd.prog 3 (plainElem Tryd.prog 3) w3.heap.size np D/\Hid (np<=(progE s m).length*(4*szd k))/\Hid (∀ y,coefOf D y=sumE (rowAt T k) (detE (lastRows T k)) (progE s m) y)/\Hid (KeysIn D (1000*((k:Int)+1)))/\Below w.heap.size w ws) (fun i _=>n-(intOf i).toNat)
    case atStart=>exact⟨0,0,.map [],Nat.zero_le _,rfl,hrow3,HM3,HO3.out,Nat.zero_le _,fun y=>coefOf_none rfl,keysIn_none _,HB3.out⟩
    case round=>
     clear hrow3 HM3 HO3 HB3
     rename World=>W2
     obtain⟨m,np,D,hm,rfl,hrow,hMin,hown,hnp,hD,hKD,hb⟩:=hrel
     by_cases hml:m<n
     · have hszX:=hb.size
       have c2:=bcell hb hbw2 (HC2.out m hml)
       have hbr2:b2<W2.heap.size:=Nat.lt_of_lt_of_le hbw2 hszX
       have HQ:Hid (Poly W2 W2.heap.size (ps.getD m (.bool false)) ((T.getD k []).getD m [])):=((HPs.out m hml).on hb).mono hszX
       generalize ps.getD m (.bool false)=pv at c2 HQ
       by_cases hbit:(s >>> m)%2=1
       · have hcw:=bit_shr s (by omega) m (by omega)
         have HX:Hid (s >>> m<1024):=hcw.2
         have hshr:=hcw.1
         have hand:=bit_and s (by omega) m (by omega)
         rw[hbit]at hand
         have hnot:=bit_not s (by omega) m (by omega) hbit
         have hql:=cols_less s (by omega) m (by omega) hbit
         have hqe:=minor_less T s k m (by omega) (by omega) hbit HK.out
         have HSN:Hid (∀ y,sumE (rowAt T k) (detE (lastRows T k)) (progE s (m+1)) y=sumE (rowAt T k) (detE (lastRows T k)) (progE s m) y+signOf s m*prodL ((T.getD k []).getD m []) (minorF T (s-2 ^ m)) y):=fun y=>by
          rw[sum_next _ _ s m hbit y,hqe.1];rfl
         have HSG:Hid (signOf s m=if onesTo (s >>> m) 10%2=0 then -1 else 1):=(rfl:signOf s m=if onesTo (s >>> m) 10%2=0 then -1 else 1)
         have HLN:Hid ((progE s (m+1)).length=(progE s m).length+1):=len_next s m hbit
         have HPL:Hid ((progE s m).length<=k+1):=(by have:=prog_len s (by omega) m (by omega);rw[HK.out]at this;exact this:(progE s m).length<=k+1)
         have hs2:s<2 ^ n:=by rw[<-HNe.out];exact hlt
         have HBP:Hid (∀ x,-1000000000000000<=coefOf D x/\coefOf D x<=1000000000000000):=fun x=>by
          have h1:=part_abs T n (by omega) (fun i c hi hc=>(good_at HGT.out hi hc).2) s k m hs2 HK.out hm x
          have h2:=(bd_le (k+1) (by omega)).1
          rw[hD.out]
          omega
         have HBQ:Hid (∀ x,-2000000000000<=minorF T (s-2 ^ m) x/\minorF T (s-2 ^ m) x<=2000000000000):=fun x=>by
          have h1:=minor_abs T n (by omega) (fun i c hi hc=>(good_at HGT.out hi hc).2) (s-2 ^ m) (by omega) x
          have h2:=(bd_le k (by omega)).2 (by omega)
          rw[hqe.2]at h1
          omega
         have hnp1:np<=1000000000000000:=by
          have h1:=(szd_le (k+1) (by omega)).1
          have h2:(progE s m).length*(4*szd k)<=(k+1)*(4*szd k):=Nat.mul_le_mul_right _ HPL.out
          have h3:szd (k+1)=(k+1)*(4*szd k):=rfl
          have h4:=hnp.out
          omega
         have hnq1:szd k<=10000000000000:=(szd_le k (by omega)).2 (by omega)
         have hGD:=good_at HGT.out hkn hml
         have HGD:Hid (mayB ((T.getD k []).getD m [])=true/\sizeL ((T.getD k []).getD m [])<=4):=hGD
         obtain⟨bq,hxq,hBq,hCq,Dq,hoq,hcq,hkq⟩:=hMin.out (s - 2 ^ m) (by omega)
         rw[hqe.2]at hoq hkq
         have HCQ:Hid (∀ y,coefOf Dq y=minorF T (s-2 ^ m) y):=hcq
         have HKQ:Hid (KeysIn Dq (1000*(k:Int))):=hkq
         generalize hq:s-2 ^ m=q at hnot hql HSN HBQ hxq HCQ
         have hqN:q<N:=by omega
         have e0:W2.cell? ⟨w.heap.size,q,none⟩=some (.map (some bq)):=by rw[hrow.cellAt q (by omega)];exact hxq
         have hlow2:w.heap.size<W2.heap.size:=(hrow.lt w.heap.size rfl).2
         have hbpl:=hown.lt
         generalize (T.getD k []).getD m []=l at HQ HSN HGD
         have HE0:Hid (W2.cell? ⟨w.heap.size,q,none⟩=some (.map (some bq))):=e0
         have HOQ:Hid (W2.ownsMap Tryd.prog 3 (plainElem Tryd.prog 3) bq (szd k) Dq):=hoq
         have HOP:Hid (W2.ownsMap Tryd.prog 3 (plainElem Tryd.prog 3) w3.heap.size np D):=hown
         have HRW:Hid (W2.ownsRow w.heap.size 60 1 (.slice (some ⟨w.heap.size,0,none⟩) N N) N xs):=hrow
         have HBL:Hid (Below w.heap.size w W2):=hb
         clear e0 hoq hown hrow hb hxq hcq hkq hq hqe hql hGD hcw hs2
         obtain⟨c,hc⟩:∃ c,onesTo (s >>> m) 10=c:=⟨_,rfl⟩
         have HCC:Hid (onesTo (s >>> m) 10=c):=hc
         rw[hc]at HSG
         clear hc
         go_wp2_with (go_at_call 49;refine(ones_any (s >>> m) _ HX.out).mono ?_;rw[HCC.out];rintro r w4 ⟨rfl,hb4⟩;refine Hid.out ?_)
         refine Lib.hid ?_
         have hsz4:=hb4.size
         have HP4:Hid (Poly w4 w4.heap.size pv l):=HQ.out.up hb4
         have HB4:Hid (Below W2.heap.size W2 w4):=hb4
         clear hb4 c2 hand hshr
         by_cases hc2:c%2=0
         · rw[if_pos hc2]at HSG
           have hd:((c:Int)%2==0)=true:=by rw[beq_iff_eq];omega
           have HG1:Hid (mayB l=true):=HGD.out.1
           have e4:w4.cell? ⟨w.heap.size,q,none⟩=some (.map (some bq)):=bcell HB4.out hlow2 HE0.out
           have hl4:w.heap.size<w4.heap.size:=by omega
           go_wp2_with (go_at_call 50;refine(addp_poly (-1) (Or.inr rfl) w3.heap.size np bq (szd k) D Dq pv l _ (HOP.out.kept (grown_below HB4.out none) (by simp)) (HOQ.out.kept (grown_below HB4.out none) (by simp)) (by omega) HG1.out HGD.out.2 HP4.out hnp1 hnq1 (1000*(k:Int)) (1000*((k:Int)+1)) (by omega) (by omega) (by omega) hKD.out HKQ.out HBP.out (fun x=>by rw[HCQ.out];exact HBQ.out x)).mono ?_;rintro r w6 ⟨D6,rfl,hown6,hD6,hK6,hg6⟩)
           go_roundw
           case rel=>
            have hgX:W2.grownBy w6 (some w3.heap.size):=grown_trans (grown_below HB4.out _) hg6
            refine⟨m+1,_,D6,by omega,by go_num,HRW.out.kept hgX (Or.inr (by simp[Value.ownBlock];omega)),hMin.out.kept hgX (fun b h1 h2 e=>by have:=Option.some.inj e;omega),hown6,?_,fun y=>?_,hK6,HBL.out.grown hgX (by omega) (fun j hj=>by cases hj;omega)⟩
            · show np+4*szd k<=_
              rw[HLN.out,Nat.add_mul]
              have:=hnp.out
              omega
            · rw[HSN.out,HSG.out,hD6,hD.out,show coefOf Dq=minorF T q from funext HCQ.out]
           case measure=>simp only[intOf];omega
         · rw[if_neg hc2]at HSG
           have hd:((c:Int)%2==0)=false:=by rw[beq_eq_false_iff_ne];omega
           have HG1:Hid (mayB l=true):=HGD.out.1
           have e4:w4.cell? ⟨w.heap.size,q,none⟩=some (.map (some bq)):=bcell HB4.out hlow2 HE0.out
           have hl4:w.heap.size<w4.heap.size:=by omega
           go_wp2_with (go_at_call 50;refine(addp_poly 1 (Or.inl rfl) w3.heap.size np bq (szd k) D Dq pv l _ (HOP.out.kept (grown_below HB4.out none) (by simp)) (HOQ.out.kept (grown_below HB4.out none) (by simp)) (by omega) HG1.out HGD.out.2 HP4.out hnp1 hnq1 (1000*(k:Int)) (1000*((k:Int)+1)) (by omega) (by omega) (by omega) hKD.out HKQ.out HBP.out (fun x=>by rw[HCQ.out];exact HBQ.out x)).mono ?_;rintro r w6 ⟨D6,rfl,hown6,hD6,hK6,hg6⟩)
           go_roundw
           case rel=>
            have hgX:W2.grownBy w6 (some w3.heap.size):=grown_trans (grown_below HB4.out _) hg6
            refine⟨m+1,_,D6,by omega,by go_num,HRW.out.kept hgX (Or.inr (by simp[Value.ownBlock];omega)),hMin.out.kept hgX (fun b h1 h2 e=>by have:=Option.some.inj e;omega),hown6,?_,fun y=>?_,hK6,HBL.out.grown hgX (by omega) (fun j hj=>by cases hj;omega)⟩
            · show np+4*szd k<=_
              rw[HLN.out,Nat.add_mul]
              have:=hnp.out
              omega
            · rw[HSN.out,HSG.out,hD6,hD.out,show coefOf Dq=minorF T q from funext HCQ.out]
           case measure=>simp only[intOf];omega
       · have hand:=bit_and s (by omega) m (by omega)
         have hz:(s >>> m)%2=0:=by omega
         rw[hz]at hand
         have HSK:Hid (progE s (m+1)=progE s m):=sum_skip s m hbit
         clear hbit hz
         go_wp2
         go_roundw
         case rel=>exact⟨m+1,np,D,by omega,by go_num,hrow,hMin,hown,by rw[HSK.out];exact hnp,by rw[HSK.out];exact hD,hKD,hb⟩
         case measure=>simp only[intOf];omega
     · obtain rfl:m=n:=by omega
       have f0:=hrow.frozenAt s
       obtain⟨u0,hu0⟩:∃ u,xs[s]?=some u:=⟨xs[s]'(by omega),List.getElem?_eq_getElem (by omega)⟩
       have d0:W2.cell? ⟨w.heap.size,s,none⟩=some u0:=by rw[hrow.cellAt s (by omega)];exact hu0
       have hlow2:w.heap.size<W2.heap.size:=(hrow.lt w.heap.size rfl).2
       have hs2:s<2 ^ m:=by rw[<-HNe.out];exact hlt
       have HST:Hid ((W2.setCell ⟨w.heap.size,s,none⟩ (.map (some w3.heap.size))).ownsRow w.heap.size 60 1 (.slice (some ⟨w.heap.size,0,none⟩) N N) N (xs.set s (.map (some w3.heap.size)))/\W2.grownBy (W2.setCell ⟨w.heap.size,s,none⟩ (.map (some w3.heap.size))) (some w.heap.size)):=hrow.stored s _
       have hbpl:=hown.lt
       have HOP:Hid (W2.ownsMap Tryd.prog 3 (plainElem Tryd.prog 3) w3.heap.size np D):=hown
       have HBL:Hid (Below w.heap.size w W2):=hb
       have HMI:Hid (Minors W2 w.heap.size w3.heap.size T xs s):=hMin
       clear hown hb hrow hu0 hMin
       go_wp2
       go_roundw
       case rel=>
        obtain⟨hst,hgs⟩:=HST.out
        refine⟨s+1,_,by omega,by omega,by go_num,by simpa using hxl,hst,?_,HBL.out.grown hgs (by omega) (fun j hj=>by cases hj;omega)⟩
        intro t ht
        by_cases hts:t=s
        · subst hts
          refine⟨w3.heap.size,by rw[List.getElem?_set_self (by omega)],by omega,Nat.lt_of_lt_of_le hbpl hgs.size,D,?_,fun y=>?_,?_⟩
          · refine(HOP.out.kept hgs (fun e=>by have:=Option.some.inj e;omega)).mono ?_
            rw[HK.out]
            have h1:=prog_len t (by omega) m (by omega)
            rw[HK.out]at h1
            exact Nat.le_trans hnp.out (Nat.mul_le_mul_right _ h1)
          · rw[hD.out,minor_prog T m t k (by omega) hs2 HK.out]
          · rw[HK.out]
            exact hKD.out
        · obtain⟨b',h1,h2,h3,D',h4,h5,h6⟩:=HMI.out t (by omega)
          exact⟨b',by rw[List.getElem?_set_ne (by omega)];exact h1,h2,by have:=hgs.size;omega,D',h4.kept hgs (fun e=>by have:=Option.some.inj e;omega),h5,h6⟩
       case measure=>simp only[intOf];omega
  · obtain rfl:s=N:=by omega
    obtain⟨b',h1,h2,h3,D',h4,h5,h6⟩:=hMin.out (s - 1) (by omega)
    have d0:W1.cell? ⟨w.heap.size,s-1,none⟩=some (.map (some b')):=by rw[hrow.cellAt (s-1) (by omega)];exact h1
    have hlow2:w.heap.size<W1.heap.size:=(hrow.lt w.heap.size rfl).2
    have HO:Hid (W1.ownsMap Tryd.prog 3 (plainElem Tryd.prog 3) b' (szd (onesTo (s-1) 10)) D'):=h4
    have H5:Hid (∀ y,coefOf D' y=minorF T (s-1) y):=h5
    have H6:Hid (KeysIn D' (1000*(onesTo (s-1) 10:Int))):=h6
    clear h1 h4 h5 h6 hrow hMin
    have hix:(s:Int)-1=((s-1:Nat):Int):=by omega
    go_wp2
    go_ret
    have ho:=ones_full n (by omega)
    have hmd:=minor_det T (by rw[HGT.out.1];omega)
    rw[HGT.out.1]at hmd
    have hO:=HO.out
    have h5:=H5.out
    have h6:=H6.out
    rw[HNe.out,ho]at hO h6
    rw[HNe.out,hmd]at h5
    exact⟨b',D',rfl,by omega,hO,h5,h6,hb⟩
end Go.Proofs.YtiliihlkpknhdaaDoor.Poly
/- The walk of poly.Det. -/
namespace Go.Proofs.YtiliihlkpknhdaaDoor.Poly
open Go.RowKit Go.Maps
set_option maxHeartbeats 1000000
set_option maxRecDepth 100000
theorem coll_len {D:DataW Unit} {left:Lit->Bool} {acc:List (Int×Int)} (h:Coll D left acc) (N:Nat) (hK:KeysIn D (N:Int)):acc.length<=2*N+1:=by
 have := few_ints N (acc.map Prod.fst) (by
  rw[List.pairwise_map]
  exact h.once) (fun x hx=>by
  simp only[List.mem_map]at hx
  obtain⟨t,ht,rfl⟩:=hx
  have h1:=(h.mem t.1 t.2).1 ht
  refine hK t.1 ?_
  cases hh:Maps.has D (.int .i64 t.1) with
  |true=>rfl
  |false=>rw[coefOf_none hh]at h1;exact absurd h1.2.1.symm h1.2.2)
 simpa using this
theorem terms34k (b n : Nat) (D : DataW Unit) (w : World) (hown : w.ownsMap Tryd.prog 3 (plainElem Tryd.prog 3) b n D) (hn : ∀ left acc, Coll D left acc → acc.length ≤ 1000000) :
    Calls Tryd.prog 29 #[.map (some b)] w fun e w'=>∃ v l,e=.returned v/\w'.ownsRow w.heap.size 40 2 v l.length (flat l)/\Canon l (coefOf D)/\Below w.heap.size w w':=by
 obtain⟨i0,hi,hz0,hz1,hz2⟩:=info_parts infoTerm
 have hbl:=hown.lt
 have HL:Hid (∀ left acc,Coll D left acc->acc.length<=1000000):=hn
 clear hn
 go_enter Tryd.func29,Tryd.ntmps29
 go_wp2_with (first|(at_range;refine wpList_range_own _ rfl _ 60 rfl 3 3 law3 Tryd.underlying60 _ b n _ rfl hown ?_;intro w0 hrg0 hg0 hs0)|go_in)
 go_frame
 go_loopw [3] (fun v wr => ∃ (left : Lit → Bool) (cnt : Nat) (acc : List (Int × Int)), wr.ranges Tryd.prog 3 (plainElem Tryd.prog 3) b w.heap.size n D left cnt ∧
     wr.ownsRow w.heap.size 40 2 v acc.length (flat acc)/\Hid (Coll D left acc)/\Below w.heap.size w wr)
  (fun _ wr=>wr.rangeLeft b w.heap.size)
 case atStart=>
  exact⟨_,_,[],hrg0,World.ownsRow_nil _ _ _ _,coll_start D,(Below.refl _ _).grown hg0 (Nat.le_refl _) (fun j hj=>by cases hj)⟩
 case round=>
  obtain⟨left,cnt,acc,hrg,hrow,hC,hnx⟩:=hrel
  have hal:=HL.out _ _ hC.out
  go_wp2_with (first
   |(at_next;refine wpList_next_ranges_ii _ rfl _ rfl 3 3 .i64 .i64 law3 Tryd.underlying3 Tryd.underlying3 b w.heap.size n _ _ _ rfl hrg ?_ ?_)
   |go_in)
  · intro hc0 hl0
    have hc:=sort_list w.heap.size _ acc _ (by omega) hrow
    go_wp2_with (go_at_call 51;refine hc.mono ?_;rintro e w' ⟨rfl,l,hp,hs,hrow2,hg2⟩)
    go_ret
    refine⟨_,l,rfl,hrow2,coll_end hC.out hl0 hp hs,hnx.grown hg2 hnx.size (fun k hk=>(hrow.lt k hk).1)⟩
  · intro x c w1 cnt1 hwx hwc hlx hat hrg1 hlt hg1 hs1 hen
    have hrow1:=hrow.kept hg1 (Or.inr (row_ne_iter hrow hrg).symm)
    have hnx1:Below w.heap.size w w1:=hnx.grown hg1 hnx.size (fun j hj=>by cases hj;exact Nat.le_refl _)
    have Hat:Hid _:=hat
    clear hs1 hat
    by_cases hc:c=0
    · subst hc
      go_wp2
      go_roundw
      case rel=>exact⟨_,cnt1,acc,hrg1,hrow1,coll_zero hC.out Hat.out,hnx1⟩
      case measure=>rw[hrg1.left_eq,hrg.left_eq];exact hlt
    · have hcb:(c != 0)=true:=by rw[bne_iff_ne];exact hc
      have HC0:Hid (c≠0):=hc
      have hsz1:=hnx1.size
      clear hc
      go_wp2_with (first
       |(at_builtin;refine wpList_append_own _ rfl _ _ 34 rfl w.heap.size 40 i0 (.agg #[.int .i64 0,.int .i64 0]) 2 16 Tryd.underlying34 hi hz0 hz1 hz2 rfl (by decide) _ _ _ rfl (hrow1.alloc _) ⟨w1.heap.size,0,none⟩ 1 1 [.int .i64 x,.int .i64 c] rfl rfl (new_cells _ _ _) (pair_one _ _) (by unfold maxLen;omega) (by omega) (by simp;omega) ?_;intro v' w3 hown' hg3 _;go_frame)
       |go_in)
      have hrg3:=(hrg1.alloc _).kept hg3 (row_ne_low hrow1 hbl) (row_ne_iter hrow1 hrg1)
      go_roundw
      case rel=>
       refine⟨_,cnt1,acc++[(x,c)],hrg3,?_,coll_more hC.out hlx HC0.out Hat.out,(hnx1.alloc hsz1 _).grown hg3 (by simp;omega) (fun j hj=>(hrow1.lt j hj).1)⟩
       rw[flat_append,List.length_append]
       exact hown'
      case measure=>rw[hrg3.left_eq,hrg.left_eq];exact hlt
end Go.Proofs.YtiliihlkpknhdaaDoor.Poly
/- Burau's tables: the walks of terms.Work's Plus and Times with greater coefficients and bounded keys. -/
namespace Go.Proofs.YtiliihlkpknhdaaDoor.Poly
open Go.RowKit Go.Maps
set_option maxHeartbeats 4000000
set_option maxRecDepth 100000
theorem mul_bdB {c g:Int} (h0 : -10000000000<=c) (h1:c<=10000000000) (h2 : -100<=g) (h3:g<=100) : -1000000000000<=c*g/\c*g<=1000000000000:=by
 have e1:(c*g).natAbs<=10000000000*100:=by
  rw[Int.natAbs_mul]
  exact Nat.mul_le_mul (by omega) (by omega)
 omega
theorem prodL_bdB (a : List (Int × Int)) (g : Int → Int) (y : Int) (ha : ∀ t ∈ a, -10000000000 ≤ t.2 ∧ t.2 ≤ 10000000000) (hg : ∀ x, -100 ≤ g x ∧ g x ≤ 100) :
    -(1000000000000*(a.length:Int))<=prodL a g y/\prodL a g y<=1000000000000*(a.length:Int):=by
 induction a with
 |nil=>simp[prodL]
 |cons t a ih=>
  have h1:=ih (fun s hs=>ha s (List.mem_cons_of_mem _ hs))
  have h2:=ha t List.mem_cons_self
  have h3:=hg (y-t.1)
  have h4:=mul_bdB h2.1 h2.2 h3.1 h3.2
  simp only[prodL,List.length_cons]
  omega
theorem prodL_leB (a : List (Int × Int)) (g : Int → Int) (y : Int) {K : Nat} (hl : a.length ≤ 2 * K + 1) (hK : K ≤ 900) (ha : ∀ t ∈ a, -10000000000 ≤ t.2 ∧ t.2 ≤ 10000000000) (hg : ∀ x, -100 ≤ g x ∧ g x ≤ 100) :
    -1000000000000000000<=prodL a g y/\prodL a g y<=1000000000000000000:=by
 have:=prodL_bdB a g y ha hg
 omega
theorem coll_bdB {D:DataW Unit} {left:Lit->Bool} {acc:List (Int×Int)} (h:Coll D left acc) (hb:∀ x,-10000000000<=coefOf D x/\coefOf D x<=10000000000):∀ t∈acc,-10000000000<=t.2/\t.2<=10000000000:=by
 intro t ht
 have:=(h.mem t.1 t.2).1 ht
 rw[<-this.2.1]
 exact hb t.1
theorem plusB (bp np bq nq K : Nat) (Dp Dq : DataW Unit) (w : World) (hp : w.ownsMap Tryd.prog 3 (plainElem Tryd.prog 3) bp np Dp) (hq : w.ownsMap Tryd.prog 3 (plainElem Tryd.prog 3) bq nq Dq) (hnp : np ≤ 10000000000000000) (hnq : nq ≤ 10000000000000000) (hK : K ≤ 900)
    (hkp:KeysIn Dp (K:Int)) (hkq:KeysIn Dq (K:Int)) (hbp:∀ x,-1000000000000<=coefOf Dp x/\coefOf Dp x<=1000000000000) (hbq:∀ x,-1000000000000<=coefOf Dq x/\coefOf Dq x<=1000000000000):
    Calls Tryd.prog 39 #[.map (some bp),.map (some bq)] w fun e w'=>∃ D:DataW Unit,e=.returned (.map (some w.heap.size))/\w'.ownsMap Tryd.prog 3 (plainElem Tryd.prog 3) w.heap.size (np+nq) D/\(∀ x,coefOf D x=coefOf Dp x+coefOf Dq x)/\KeysIn D (K:Int)/\Below w.heap.size w w':=by
 have hmm:=fun n=>make46i n
 have hlp:=hp.lt
 have hlq:=hq.lt
 have hsp:=size_le hp
 have hsq:=size_le hq
 have HKP:Hid (KeysIn Dp (K:Int)):=hkp
 have HKQ:Hid (KeysIn Dq (K:Int)):=hkq
 have HBP:Hid _:=hbp
 have HBQ:Hid _:=hbq
 clear hkp hkq hbp hbq
 have e1:(w.alloc (.map #[] 0)).heap.size=w.heap.size+1:=by simp
 go_enter Tryd.func39,Tryd.ntmps39
 go_wp2_with (first
  |(at_len;refine wpList_len_own _ rfl _ 60 rfl 3 3 Tryd.underlying60 _ bp np _ rfl hp ?_)
  |(at_len;refine wpList_len_own _ rfl _ 60 rfl 3 3 Tryd.underlying60 _ bq nq _ rfl hq ?_)
  |(at_range;refine wpList_range_own _ rfl _ 60 rfl 3 3 law3 Tryd.underlying60 _ bp np _ rfl (hp.alloc _) ?_;intro w0 hrg0 hg0 hs0))
 go_frame
 rw[e1]at hrg0 hs0 ⊢
 go_loopw [6, 7] (fun _ _ wr => ∃ (left : Lit → Bool) (cnt k : Nat) (D : DataW Unit), wr.ranges Tryd.prog 3 (plainElem Tryd.prog 3) bp (w.heap.size + 1) np Dp left cnt ∧ k + cnt ≤ np ∧
     wr.ownsMap Tryd.prog 3 (plainElem Tryd.prog 3) w.heap.size k D/\Hid (∀ x,coefOf D x=part left (coefOf Dp) x)/\Hid (KeysIn D (K:Int))/\Below w.heap.size w wr)
  (fun _ _ wr=>wr.rangeLeft bp (w.heap.size+1))
 case atStart=>
  exact⟨_,_,0,.map [],hrg0,by omega,(World.ownsMap_made _ _ _ _).kept hg0 (by simp),fun x=>by rw[part_start];exact coefOf_none rfl,(fun x hx=>by cases hx),((Below.refl _ _).alloc (Nat.le_refl _) _).grown hg0 (by simp) (fun j hj=>by cases hj)⟩
 case round=>
  clear hrg0 hg0 hs0
  rename World=>W1
  obtain⟨left,cnt,k,D,hrg,hcs,hout,hD,hKD,hnx⟩:=hrel
  go_wp2_with (first
   |(at_next;refine wpList_next_ranges_ii _ rfl _ rfl 3 3 .i64 .i64 law3 Tryd.underlying3 Tryd.underlying3 bp (w.heap.size+1) np _ _ _ rfl hrg ?_ ?_)
   |go_in)
  · intro hc0 hl0
    have hD2:Hid (∀ x,coefOf D x=coefOf Dp x):=fun x=>by rw[hD.out,part_end hl0]
    have hq2:=map_on hq hnx hlq
    have hlr:=hq2.lt
    have hsz:=hnx.size
    have hol:=hout.lt
    clear hD hc0 hl0
    go_wp2_with (first
     |(at_range;refine wpList_range_own _ rfl _ 60 rfl 3 3 law3 Tryd.underlying60 _ bq nq _ rfl hq2 ?_;intro w2 hrg2 hg2 hs2))
    go_frame
    go_loopw [8, 9] (fun _ _ ws => ∃ (left : Lit → Bool) (cnt k : Nat) (D : DataW Unit), ws.ranges Tryd.prog 3 (plainElem Tryd.prog 3) bq W1.heap.size nq Dq left cnt ∧ k + cnt ≤ np + nq ∧
        ws.ownsMap Tryd.prog 3 (plainElem Tryd.prog 3) w.heap.size k D/\Hid (∀ x,coefOf D x=coefOf Dp x+part left (coefOf Dq) x)/\Hid (KeysIn D (K:Int))/\Below w.heap.size w ws)
     (fun _ _ ws=>ws.rangeLeft bq W1.heap.size)
    case atStart=>
     exact⟨_,_,k,D,hrg2,by omega,hout.kept hg2 (by simp),fun x=>by rw[part_start,hD2.out];omega,hKD.out,hnx.grown hg2 hsz (fun j hj=>by cases hj)⟩
    case round=>
     clear hrg2 hg2 hs2 hout hnx hrg hKD
     obtain⟨left,cnt,k,D,hrg,hcs,hout,hD,hKD,hnx⟩:=hrel
     go_wp2_with (first
      |(at_next;refine wpList_next_ranges_ii _ rfl _ rfl 3 3 .i64 .i64 law3 Tryd.underlying3 Tryd.underlying3 bq W1.heap.size nq _ _ _ rfl hrg ?_ ?_)
      |go_in)
     · intro hc0 hl0
       go_wp2
       go_ret
       exact⟨D,rfl,hout.mono (by omega),fun x=>by rw[hD.out,part_end hl0],hKD.out,hnx⟩
     · intro x c w1 cnt1 hwx hwc hlx hat hrg1 hlt hg1 hs1 hen
       have hout1:=hout.kept hg1 (by intro e;have:=Option.some.inj e;omega)
       have hnx1:Below w.heap.size w w1:=hnx.grown hg1 hnx.size (fun j hj=>by cases hj;exact hsz)
       have hx:=HKQ.out x (has_at hat)
       have hcq:=HBQ.out x
       have hcp:=HBP.out x
       rw[coefOf_at hat]at hcq
       have HX:Hid (coefOf Dq x=c/\coefOf D x=coefOf Dp x):=⟨coefOf_at hat,by rw[hD.out,part_at hlx];omega⟩
       have HL:Hid _:=hlx
       have hdm:=hout.isMap
       clear hat hlx
       go_wp2_with (first
        |(at_lookup;refine wpList_lookup_own_int _ rfl _ _ 60 rfl 3 3 .i64 law3 Tryd.underlying60 Tryd.underlying3 (zero3 _) w.heap.size k _ rfl hout1 _ _ rfl (keyOf_int_mk Tryd.underlying3 (WalkArith.wf_i64 (by omega))) ?_;intro c' hat hwc;refine Hid.out ?_))
       refine Lib.hid ?_
       have hc':coefOf D x=c':=coefOf_look hat
       have hbd : -1000000000000<=c'/\c'<=1000000000000:=by rw[<-hc',HX.out.2];exact hcp
       have HC':Hid (coefOf D x=c'):=hc'
       clear hat hwc hc'
       go_wp2_with (first
        |(at_mapUpdate;refine wpList_mapUpdate_own _ rfl _ _ _ 60 rfl 3 3 law3 Tryd.underlying60 _ w.heap.size k _ rfl hout1 (by unfold maxLen;omega) _ _ _ rfl rfl (keyOf_int_mk Tryd.underlying3 (WalkArith.wf_i64 (by omega))) _ [] (plainElem_int Tryd.underlying3 (WalkArith.wf_i64 (by omega))) ?_;intro w3 hown3 hg3;go_frame))
       have hrg3:=hrg1.kept hg3 (fun e=>by have:=Option.some.inj e;omega) (fun e=>by have:=Option.some.inj e;omega)
       go_roundw
       case rel=>
        refine⟨_,cnt1,k+1,_,hrg3,by omega,hown3,fun y=>?_,keysIn_put hKD.out hx.1 hx.2 _,hnx1.grown hg3 hnx1.size (fun j hj=>by cases hj;exact Nat.le_refl _)⟩
        rw[coefOf_put hdm,part_step]
        by_cases hxy:x=y
        · rw[if_pos hxy,if_pos hxy,<-HC'.out,HX.out.1,HX.out.2,hxy]
        · rw[if_neg hxy,if_neg hxy,hD.out]
       case measure=>rw[hrg3.left_eq,hrg.left_eq];exact hlt
  · intro x c w1 cnt1 hwx hwc hlx hat hrg1 hlt hg1 hs1 hen
    have hout1:=hout.kept hg1 (by simp)
    have hnx1:Below w.heap.size w w1:=hnx.grown hg1 hnx.size (fun j hj=>by cases hj;omega)
    have hx:=HKP.out x (has_at hat)
    have HX:Hid (coefOf Dp x=c):=coefOf_at hat
    have HL:Hid _:=hlx
    have hdm:=hout.isMap
    clear hat hlx
    go_wp2_with (first
     |(at_mapUpdate;refine wpList_mapUpdate_own _ rfl _ _ _ 60 rfl 3 3 law3 Tryd.underlying60 _ w.heap.size k _ rfl hout1 (by unfold maxLen;omega) _ _ _ rfl rfl (keyOf_int_mk Tryd.underlying3 hwx) _ [] (plainElem_int Tryd.underlying3 hwc) ?_;intro w2 hout2 hg2;go_frame))
    have hrg2:=hrg1.kept hg2 (fun e=>by have:=Option.some.inj e;omega) (fun e=>by have:=Option.some.inj e;omega)
    go_roundw
    case rel=>
     refine⟨_,cnt1,k+1,_,hrg2,by omega,hout2,fun y=>?_,keysIn_put hKD.out hx.1 hx.2 _,hnx1.grown hg2 hnx1.size (fun j hj=>by cases hj;exact Nat.le_refl _)⟩
     rw[coefOf_put hdm,part_step]
     by_cases hxy:x=y
     · rw[if_pos hxy,if_pos hxy,HX.out]
     · rw[if_neg hxy,if_neg hxy,hD.out]
    case measure=>rw[hrg2.left_eq,hrg.left_eq];exact hlt
theorem timesB (bp np bq nq K : Nat) (Dp Dq : DataW Unit) (w : World) (hp : w.ownsMap Tryd.prog 3 (plainElem Tryd.prog 3) bp np Dp) (hq : w.ownsMap Tryd.prog 3 (plainElem Tryd.prog 3) bq nq Dq) (hnp : np ≤ 1000000000000000) (hnq : nq ≤ 2) (hK : K ≤ 900)
    (hkp:KeysIn Dp (K:Int)) (hkq:KeysIn Dq 1) (hbp:∀ x,-10000000000<=coefOf Dp x/\coefOf Dp x<=10000000000) (hbq:∀ x,-100<=coefOf Dq x/\coefOf Dq x<=100):
    Calls Tryd.prog 22 #[.map (some bp),.map (some bq)] w fun e w'=>∃ (D:DataW Unit) (acc:List (Int×Int)),e=.returned (.map (some w.heap.size))/\w'.ownsMap Tryd.prog 3 (plainElem Tryd.prog 3) w.heap.size (2*np) D/\KeysIn D ((K:Int)+1)/\(∀ y,coefOf D y=prodL acc (coefOf Dq) y)/\
     (∀ x c,(x,c)∈acc↔(coefOf Dp x=c/\c≠0))/\acc.Pairwise (fun a b=>a.1≠b.1)/\Below w.heap.size w w':=by
 have hmm:=@run_makeMap Tryd.prog
 have hlp:=hp.lt
 have hlq:=hq.lt
 have hsp:=size_le hp
 have hsq:=size_le hq
 have HKP:Hid (KeysIn Dp (K:Int)):=hkp
 have HKQ:Hid (KeysIn Dq 1):=hkq
 have HBP:Hid _:=hbp
 have HBQ:Hid _:=hbq
 clear hkp hkq hbp hbq
 have e1:(w.alloc (.map #[] 0)).heap.size=w.heap.size+1:=by simp
 go_enter Tryd.func22,Tryd.ntmps22
 go_wp2_with (first
  |(at_range;refine wpList_range_own _ rfl _ 60 rfl 3 3 law3 Tryd.underlying60 _ bp np _ rfl (hp.alloc _) ?_;intro w0 hrg0 hg0 hs0))
 go_frame
 rw[e1]at hrg0 hs0 ⊢
 go_loopw [6, 7, 8, 9] (fun _ _ _ _ wr => ∃ (left : Lit → Bool) (cnt k j : Nat) (D : DataW Unit) (acc : List (Int × Int)), wr.ranges Tryd.prog 3 (plainElem Tryd.prog 3) bp (w.heap.size + 1) np Dp left cnt ∧ j + cnt ≤ np ∧ k ≤ 2 * j ∧
     wr.ownsMap Tryd.prog 3 (plainElem Tryd.prog 3) w.heap.size k D/\Hid (Coll Dp left acc)/\Hid (∀ y,coefOf D y=prodL acc (coefOf Dq) y)/\Hid (KeysIn D ((K:Int)+1))/\Below w.heap.size w wr)
  (fun _ _ _ _ wr=>wr.rangeLeft bp (w.heap.size+1))
 case atStart=>
  exact⟨_,_,0,0,.map [],[],hrg0,by omega,by omega,(World.ownsMap_made _ _ _ _).kept hg0 (by simp),coll_start Dp,fun y=>coefOf_none rfl,(fun x hx=>by cases hx),((Below.refl _ _).alloc (Nat.le_refl _) _).grown hg0 (by simp) (fun j hj=>by cases hj)⟩
 case round=>
  clear hrg0 hg0 hs0
  rename World=>W1
  obtain⟨left,cnt,k,j,D,acc,hrg,hcs,hkj,hout,hC,hD,hKD,hnx⟩:=hrel
  go_wp2_with (first
   |(at_next;refine wpList_next_ranges_ii _ rfl _ rfl 3 3 .i64 .i64 law3 Tryd.underlying3 Tryd.underlying3 bp (w.heap.size+1) np _ _ _ rfl hrg ?_ ?_)
   |go_in)
  · intro hc0 hl0
    go_wp2
    go_ret
    exact⟨D,acc,rfl,hout.mono (by omega),hKD.out,hD.out,fun x c=>by rw[hC.out.mem];simp[hl0],hC.out.once,hnx⟩
  · intro x c w1 cnt1 hwx hwc hlx hat hrg1 hlt hg1 hs1 hen
    have hx:=HKP.out x (has_at hat)
    have hcp:=HBP.out x
    rw[coefOf_at hat]at hcp
    have hout1:=hout.kept hg1 (by simp)
    have hnx1:Below w.heap.size w w1:=hnx.grown hg1 hnx.size (fun j hj=>by cases hj;omega)
    have hq1:=map_on hq hnx1 hlq
    have hsz1:=hnx1.size
    have hHB:Hid (∀ y,-1000000000000000000<=prodL acc (coefOf Dq) y/\prodL acc (coefOf Dq) y<=1000000000000000000):=fun y=>prodL_leB acc (coefOf Dq) y (coll_lenB hC.out K HKP.out) hK (coll_bdB hC.out HBP.out) HBQ.out
    have HAT:Hid _:=hat
    have HL:Hid _:=hlx
    have hr1:w.heap.size+1<w1.heap.size:=hrg1.lt
    clear hat hlx hs1 hout hnx
    go_wp2_with (first
     |(at_range;refine wpList_range_own _ rfl _ 60 rfl 3 3 law3 Tryd.underlying60 _ bq nq _ rfl hq1 ?_;intro w2 hrg2 hg2 hs2))
    go_frame
    go_loopw [8, 9] (fun _ _ ws => ∃ (left2 : Lit → Bool) (cnt2 k2 : Nat) (D2 : DataW Unit), ws.ranges Tryd.prog 3 (plainElem Tryd.prog 3) bq w1.heap.size nq Dq left2 cnt2 ∧ k2 + cnt2 ≤ k + nq ∧
        ws.ranges Tryd.prog 3 (plainElem Tryd.prog 3) bp (w.heap.size+1) np Dp (fun z=>left z&&!z.sameKey (.int .i64 x)) cnt1/\
        ws.ownsMap Tryd.prog 3 (plainElem Tryd.prog 3) w.heap.size k2 D2/\Hid (∀ y,coefOf D2 y=prodL acc (coefOf Dq) y+part left2 (fun z=>c*coefOf Dq z) (y-x))/\Hid (KeysIn D2 ((K:Int)+1))/\Below w.heap.size w ws)
     (fun _ _ ws=>ws.rangeLeft bq w1.heap.size)
    case atStart=>
     exact ⟨_, _, k, D, hrg2, by omega, hrg1.kept hg2 (by simp) (by simp), hout1.kept hg2 (by simp), fun y => by
      have:part (Maps.has Dq) (fun z=>c*coefOf Dq z) (y-x)=0:=by
       unfold part
       split
       · rfl
       · rename_i h
         show c*coefOf Dq (y-x)=0
         rw[coefOf_none (by simpa using h)];simp
      rw[this,hD.out];omega,hKD.out,hnx1.grown hg2 hsz1 (fun j hj=>by cases hj)⟩
    case round=>
     clear hrg2 hg2 hs2 hrg1 hg1 hen hout1 hnx1 hq1
     obtain⟨left2,cnt2,k2,D2,hrq,hcs2,hrp,hout,hD2,hKD2,hnx⟩:=hrel
     go_wp2_with (first
      |(at_next;refine wpList_next_ranges_ii _ rfl _ rfl 3 3 .i64 .i64 law3 Tryd.underlying3 Tryd.underlying3 bq w1.heap.size nq _ _ _ rfl hrq ?_ ?_)
      |go_in)
     · intro hc0 hl0
       go_wp2
       go_roundw
       case rel=>
        have hfin:∀ y,coefOf D2 y=prodL acc (coefOf Dq) y+c*coefOf Dq (y-x):=fun y=>by rw[hD2.out,part_end hl0]
        by_cases hcz:c=0
        · subst hcz
          exact⟨_,cnt1,k2,j+1,D2,acc,hrp,by omega,by omega,hout,coll_zero hC.out HAT.out,fun y=>by rw[hfin];simp,hKD2.out,hnx⟩
        · refine⟨_,cnt1,k2,j+1,D2,acc++[(x,c)],hrp,by omega,by omega,hout,coll_more hC.out HL.out hcz HAT.out,fun y=>?_,hKD2.out,hnx⟩
          rw[hfin,prodL_append]
          simp[prodL]
       case measure=>rw[hrp.left_eq,hrg.left_eq];exact hlt
     · intro x2 c2 w3 cnt3 hwx2 hwc2 hlx2 hat2 hrq3 hlt3 hg3 hs3 hen3
       have hx2:=HKQ.out x2 (has_at hat2)
       have hcq:=HBQ.out x2
       rw[coefOf_at hat2]at hcq
       have hmul:=mul_bdB hcp.1 hcp.2 hcq.1 hcq.2
       have hne1:w.heap.size≠w1.heap.size:=by omega
       have hout3:=hout.kept hg3 (by intro e;exact hne1 (Option.some.inj e))
       have hrp3:=hrp.kept hg3 (by intro e;have:=Option.some.inj e;omega) (by intro e;have:=Option.some.inj e;omega)
       have hnx3:Below w.heap.size w w3:=hnx.grown hg3 hnx.size (fun j hj=>by cases hj;exact hsz1)
       have HX : Hid (coefOf Dq x2 = c2 ∧ coefOf D2 (x + x2) = prodL acc (coefOf Dq) (x + x2)) := ⟨coefOf_at hat2, by
        rw[hD2.out,show x+x2-x=x2 by omega,part_at hlx2];omega⟩
       have hbd0:=hHB.out (x+x2)
       have hdm:=hout.isMap
       have HH2:Hid _:=hlx2
       clear hat2 hlx2 hs3
       go_wp2_with (first
        |(at_lookup;refine wpList_lookup_own_int _ rfl _ _ 60 rfl 3 3 .i64 law3 Tryd.underlying60 Tryd.underlying3 (zero3 _) w.heap.size k2 _ rfl hout3 _ _ rfl (keyOf_int_mk Tryd.underlying3 (WalkArith.wf_i64 (by omega))) ?_;intro c' hat hwc;refine Hid.out ?_))
       refine Lib.hid ?_
       have hc':coefOf D2 (x+x2)=c':=coefOf_look hat
       have hbd : -1000000000000000000<=c'/\c'<=1000000000000000000:=by rw[<-hc',HX.out.2];exact hbd0
       have HC':Hid (coefOf D2 (x+x2)=c'):=hc'
       clear hat hwc hc' hbd0
       go_wp2_with (first
        |(at_mapUpdate;refine wpList_mapUpdate_own _ rfl _ _ _ 60 rfl 3 3 law3 Tryd.underlying60 _ w.heap.size k2 _ rfl hout3 (by unfold maxLen;omega) _ _ _ rfl rfl (keyOf_int_mk Tryd.underlying3 (WalkArith.wf_i64 (by omega))) _ [] (plainElem_int Tryd.underlying3 (WalkArith.wf_i64 (by omega))) ?_;intro w4 hown4 hg4;go_frame))
       have hrq4:=hrq3.kept hg4 (fun e=>by have:=Option.some.inj e;omega) (fun e=>by have:=Option.some.inj e;omega)
       have hrp4:=hrp3.kept hg4 (fun e=>by have:=Option.some.inj e;omega) (fun e=>by have:=Option.some.inj e;omega)
       go_roundw
       case rel=>
        refine⟨_,cnt3,k2+1,_,hrq4,by omega,hrp4,hown4,fun y=>?_,keysIn_put hKD2.out (by omega) (by omega) _,hnx3.grown hg4 hnx3.size (fun j hj=>by cases hj;exact Nat.le_refl _)⟩
        rw[coefOf_put hdm,part_step]
        by_cases hxy:x+x2=y
        · have hyx:x2=y-x:=by omega
          rw[if_pos hxy,if_pos hyx,<-HC'.out,HX.out.2,HX.out.1,hxy]
        · have hyx:¬ x2=y-x:=by omega
          rw[if_neg hxy,if_neg hyx,hD2.out]
       case measure=>rw[hrq4.left_eq,hrq.left_eq];exact hlt3
end Go.Proofs.YtiliihlkpknhdaaDoor.Poly
/- Determinants along the first row, their exponents and their bounds. Plain mathematics: no program is named here. -/
namespace Go.Proofs.YtiliihlkpknhdaaDoor.Poly
theorem few_natsQ:∀ (n:Nat) (l:List Nat),l.Pairwise (·≠·)->(∀ x∈l,x<n)->l.length<=n:=by
 intro n
 induction n with
 |zero=>
  intro l _ h
  cases l with
  |nil=>simp
  |cons x l=>exact absurd (h x (by simp)) (by omega)
 |succ n ih=>
  intro l hp h
  have h1 := ih (l.filter fun x => x != n) (hp.sublist List.filter_sublist) (fun x hx => by
   simp only[List.mem_filter,bne_iff_ne,ne_eq]at hx
   have:=h x hx.1
   omega)
  have h2:∀ (l:List Nat),l.Pairwise (·≠·)->l.length<=(l.filter fun x=>x != n).length+1:=by
   intro l hp
   induction l with
   |nil=>simp
   |cons x l ihl=>
    rw[List.pairwise_cons]at hp
    by_cases hx:x=n
    · have e : (l.filter fun x => x != n) = l := by
        rw[List.filter_eq_self]
        intro y hy
        have:=hp.1 y hy
        simp only[bne_iff_ne,ne_eq]
        omega
      simp[hx,e]
    · have:=ihl hp.2
      simp[hx]
      omega
  have:=h2 l hp
  omega
theorem few_intsQ (K:Nat) (l:List Int) (hp:l.Pairwise (·≠·)) (h:∀ x∈l,-(K:Int)<=x/\x<=K):l.length<=2*K+1:=by
 have := few_natsQ (2 * K + 1) (l.map fun x : Int => (x + (K : Int)).toNat) (by
  rw[List.pairwise_map]
  refine List.Pairwise.imp_of_mem ?_ hp
  intro a b ha hb hab e
  have:=h a ha
  have:=h b hb
  omega) (fun x hx=>by
  simp only[List.mem_map]at hx
  obtain⟨y,hy,rfl⟩:=hx
  have:=h y hy
  omega)
 simpa using this
def rowsOfQ (T:List (List (List (Int×Int)))):List (Nat->List (Int×Int)):=T.map fun R c=>R.getD c []
def detOfQ (T:List (List (List (Int×Int)))):Int->Int:=detF (rowsOfQ T) (List.range T.length)
theorem rowsOf_rangeQ (T:List (List (List (Int×Int)))):(List.range T.length).map (rowAtQ T)=rowsOfQ T:=by
 apply List.ext_getElem?
 intro i
 unfold rowsOfQ rowAtQ
 rw[List.getElem?_map,List.getElem?_map]
 by_cases h:i<T.length
 · rw[List.getElem?_range h]
   simp[List.getD,h]
 · rw[List.getElem?_eq_none (by simp;omega),List.getElem?_eq_none (by omega)]
   rfl
theorem minor_detQ (T:List (List (List (Int×Int)))) (h:T.length<7):minorFQ T (2 ^ T.length-1)=detOfQ T:=by
 rw[minor_fullQ T T.length h,rowsOf_rangeQ]
 rfl
def GoodTQ (T:List (List (List (Int×Int)))) (n:Nat):Prop:=T.length=n/\∀ R∈T,R.length=n/\∀ l∈R,mayB l=true/\sizeL l<=100
theorem getD_memQ {α:Type} (l:List α) (i:Nat) (d:α) (h:i<l.length):l.getD i d∈l:=by
 have e:l.getD i d=l[i]:=by simp[List.getD,h]
 rw[e]
 exact List.getElem_mem h
theorem good_atQ {T:List (List (List (Int×Int)))} {n:Nat} (h:GoodTQ T n) {i c:Nat} (hi:i<n) (hc:c<n):mayB ((T.getD i []).getD c [])=true/\sizeL ((T.getD i []).getD c [])<=100:=by
 have h1:=h.2 _ (getD_memQ T i [] (by have:=h.1;omega))
 exact h1.2 _ (getD_memQ _ c [] (by have:=h1.1;omega))
theorem ones_fullQ (n:Nat) (hn:n<7):onesToQ (2 ^ n-1) 6=n:=by
 have h0:0<2 ^ n:=Nat.pow_pos (by decide)
 have:=cols_lenQ (2 ^ n-1) (pow_64Q hn (by omega))
 rw[cols_fullQ n hn]at this
 simpa using this.symm
end Go.Proofs.YtiliihlkpknhdaaDoor.Poly
/- The walk of poly.determinant: the map that it hands back has the determinant's coefficients. -/
namespace Go.Proofs.YtiliihlkpknhdaaDoor.Poly
open Go.RowKit Go.Maps
set_option maxHeartbeats 4000000
set_option maxRecDepth 100000
theorem infoWorkQ:(Tryd.prog.info? 60).map (fun i=>(i.zero,i.size,i.bytes))=some (some (.map none),1,8):=by kernel_rfl
theorem pow_wrapQ:∀ n,n<7->wrap64 (2 ^ n)=((2 ^ n:Nat):Int):=by decide +kernel
theorem bit_andQ:∀ s:Nat,s<64->∀ m,m<6->bits BinOp.and IntKind.i64 ((s:Int) / 2 ^ m) 1=(((s >>> m)%2:Nat):Int):=by decide +kernel
theorem bit_notQ:∀ s:Nat,s<64->∀ m,m<6->(s >>> m)%2=1->bits BinOp.andNot IntKind.i64 (s:Int) (wrap64 (2 ^ m))=((s-2 ^ m:Nat):Int):=by decide +kernel
theorem bit_shrQ:∀ s:Nat,s<64->∀ m,m<6->IntKind.u64.wrap ((s:Int) / 2 ^ m)=((s >>> m:Nat):Int)/\s >>> m<64:=by decide +kernel
theorem keysIn_noneQ (N:Int):KeysIn (.map []:DataW Unit) N:=fun x hx=>by cases hx
theorem make46nQ (w:World):(Instr.makeMap 60 none).run Tryd.prog w=.ok (.map (some w.heap.size)) (w.alloc (.map #[] 0)):=rfl
def MinorAtQ (w:World) (T:List (List (List (Int×Int)))) (t b:Nat):Prop:=
 ∃ D:DataW Unit,w.ownsMap Tryd.prog 3 (plainElem Tryd.prog 3) b (szdQ (onesToQ t 6)) D/\(∀ y,coefOf D y=minorFQ T t y)/\KeysIn D (1000*(onesToQ t 6:Int))
def MinorsQ (w:World) (B C:Nat) (T:List (List (List (Int×Int)))) (xs:List Value) (s:Nat):Prop:=
 ∀ t,t<s->∃ b,xs[t]?=some (.map (some b))/\B<b/\b<C/\MinorAtQ w T t b
theorem MinorsQ.kept {w w':World} {B C s:Nat} {T:List (List (List (Int×Int)))} {xs:List Value} {row:Option Nat} (h:MinorsQ w B C T xs s) (hg:w.grownBy w' row) (hne:∀ b,B<b->b<C->row≠some b):MinorsQ w' B C T xs s:=by
 intro t ht
 obtain⟨b,h1,h2,h3,D,h4,h5,h6⟩:=h t ht
 exact⟨b,h1,h2,h3,D,h4.kept hg (fun e=>hne b h2 h3 e.symm),h5,h6⟩
theorem MinorsQ.mono {w:World} {B C C' s:Nat} {T:List (List (List (Int×Int)))} {xs:List Value} (h:MinorsQ w B C T xs s) (hC:C<=C'):MinorsQ w B C' T xs s:=by
 intro t ht
 obtain⟨b,h1,h2,h3,h4⟩:=h t ht
 exact⟨b,h1,h2,Nat.lt_of_lt_of_le h3 hC,h4⟩
theorem minors_zeroQ {w : World} {B C b : Nat} {T : List (List (List (Int × Int)))} {xs : List Value} (hB : B < b) (hC : b < C) (hx : xs[0]? = some (.map (some b)))
    (ho:w.ownsMap Tryd.prog 3 (plainElem Tryd.prog 3) b 1 ((DataW.map []:DataW Unit).put (.int .i64 0) (.lit (.int .i64 1)))):MinorsQ w B C T xs 1:=by
 intro t ht
 obtain rfl:t=0:=by omega
 refine⟨b,hx,hB,hC,_,ho,fun y=>?_,keysIn_put (fun x hx=>by cases hx) (by decide) (by decide) _⟩
 rw[coefOf_put ⟨_,rfl⟩,minor_zeroQ]
 unfold oneF
 by_cases h:(0:Int)=y
 · rw[if_pos h,if_pos h.symm]
 · rw[if_neg h,if_neg (fun e=>h e.symm)]
   exact coefOf_none rfl
theorem determinant_anyQ (v : Value) (T : List (List (List (Int × Int)))) (n : Nat) (w : World) (hn : n ≤ 6) (hT : GoodTQ T n) (h : Table w w.heap.size v T) :
    Calls Tryd.prog 28 #[v] w fun e w'=>∃ (b:Nat) (D:DataW Unit),e=.returned (.map (some b))/\w.heap.size<=b/\w'.ownsMap Tryd.prog 3 (plainElem Tryd.prog 3) b (szdQ n) D/\(∀ y,coefOf D y=detOfQ T y)/\KeysIn D (1000*(n:Int))/\Below w.heap.size w w':=by
 obtain⟨i0,hi,hz0,hz1,hz2⟩:=info_parts infoWorkQ
 obtain⟨rs,hrl,⟨a,cap,rfl,g⟩,hR⟩:=h
 have hTl:=hT.1
 obtain⟨N,hNe,hN,hN1,hN2⟩:∃ N:Nat,N=2 ^ n/\wrap64 (2 ^ n)=(N:Int)/\1<=N/\N<=64:=⟨2 ^ n,rfl,pow_wrapQ n (by omega),Nat.pow_pos (by decide),Nat.pow_le_pow_right (n:=2) (by decide) hn⟩
 have HN:Hid (wrap64 (2 ^ n)=(N:Int)):=hN
 have HNe:Hid (N=2 ^ n):=hNe
 have HGT:Hid (GoodTQ T n):=hT
 have HR:Hid (∀ i,i<n->Row w w.heap.size (rs.getD i (.bool false)) (T.getD i [])):=fun i hi=>hR i (by omega)
 rw[hrl,hTl]at g ⊢
 have HG:Hid (0<n->∃ b off,a=some ⟨b,off,none⟩/\b<w.heap.size/\∀ i,i<n->w.cell? ⟨b,off+i,none⟩=some (rs.getD i (.bool false))):=g
 have hmm:=make46nQ
 clear hN hNe hT hR g hTl hrl
 go_enter Tryd.func28,Tryd.ntmps28
 go_wp2_with (first|(at_make;refine wpList_make_full _ rfl _ _ 73 rfl w.heap.size 60 i0 (.map none) 1 Tryd.underlying73 hi hz0 hz1 .i64 .i64 _ _ N rfl rfl HN.out HN.out (by rw[hz2];omega) (by unfold maxLen;omega) (Nat.le_refl _) ?_;intro w1 hrow hg1;refine Hid.out ?_))
 refine Lib.hid ?_
 have hown0:(w1.alloc (.map #[] 0)).ownsMap Tryd.prog 3 (plainElem Tryd.prog 3) w1.heap.size 0 (.map []:DataW Unit):=World.ownsMap_made _ _ _ _
 obtain⟨w2,hins,hown2,hg2⟩:=hown0.update law3 Tryd.underlying60 (by unfold maxLen;omega) (keyOf_int_mk Tryd.underlying3 (WalkArith.wf_i64 (by omega : -9223372036854775808<=(0:Int)/\(0:Int)<=9223372036854775807))) (plainElem_int Tryd.underlying3 (WalkArith.wf_i64 (by omega : -9223372036854775808<=(1:Int)/\(1:Int)<=9223372036854775807)))
 have hsz1:=hg1.size
 have hsz2:=hg2.size
 simp only[World.alloc,Array.size_push]at hsz2
 have hlt1:w.heap.size<w1.heap.size:=(hrow.lt w.heap.size rfl).2
 have hrow2:=(hrow.alloc (.map #[] 0)).kept hg2 (Or.inr (by simp[Value.ownBlock];omega))
 rw[show(madeCells (Value.map none).cells (N*1)).toList=List.replicate N (Value.map none) by rw[Nat.mul_one];exact toList_madeCells_one _ _]at hrow2
 have f0:=hrow2.frozenAt 0
 have d0:w2.cell? ⟨w.heap.size,0,none⟩=some (.map none):=by
  rw[hrow2.cellAt 0 (by omega),List.getElem?_replicate,if_pos (by omega)]
 have hB2:Below w.heap.size w w2:=(((Below.refl _ _).grown hg1 (Nat.le_refl _) (fun j hj=>by cases hj)).alloc hsz1 _).grown hg2 (by simp;omega) (fun j hj=>by cases hj;omega)
 have HST:Hid (∀ u,(w2.setCell ⟨w.heap.size,0,none⟩ u).ownsRow w.heap.size 60 1 (.slice (some ⟨w.heap.size,0,none⟩) N N) N ((List.replicate N (Value.map none)).set 0 u)/\w2.grownBy (w2.setCell ⟨w.heap.size,0,none⟩ u) (some w.heap.size)):=fun u=>hrow2.stored 0 u
 have HO2:Hid (w2.ownsMap Tryd.prog 3 (plainElem Tryd.prog 3) w1.heap.size 1 ((DataW.map []:DataW Unit).put (.int .i64 0) (.lit (.int .i64 1)))):=hown2
 have HB2:Hid (Below w.heap.size w w2):=hB2
 clear hB2 hown2 hrow2 hg1 hg2 hown0 hrow
 go_wp2
 clear hins f0 d0 hmm
 have hmm:=make46nQ
 go_loopw [4] (fun i wr=>∃ (s:Nat) (xs:List Value),1<=s/\s<=N/\i=.int .i64 s/\xs.length=N/\wr.ownsRow w.heap.size 60 1 (.slice (some ⟨w.heap.size,0,none⟩) N N) N xs/\Hid (MinorsQ wr w.heap.size wr.heap.size T xs s)/\Below w.heap.size w wr) (fun i _=>N-(intOf i).toNat)
 case atStart=>
  have hst:=HST.out (.map (some w1.heap.size))
  refine⟨1,(List.replicate N (Value.map none)).set 0 (.map (some w1.heap.size)),Nat.le_refl _,hN1,rfl,by simp,hst.1,?_,HB2.out.grown hst.2 (by omega) (fun j hj=>by cases hj;omega)⟩
  exact minors_zeroQ hlt1 (Nat.lt_of_lt_of_le (by omega) hst.2.size) (by rw[List.getElem?_set_self (by simp;omega)]) (HO2.out.kept hst.2 (fun e=>by have:=Option.some.inj e;omega))
 case round=>
  clear HST HO2 HB2 hlt1 hsz1 hsz2 w2
  rename World=>W1
  obtain⟨s,xs,hs1,hsN,rfl,hxl,hrow,hMin,hb⟩:=hrel
  by_cases hlt:s<N
  · have hs2:s<2 ^ n:=by rw[<-HNe.out];exact hlt
    have ho:=ones_leQ n (by omega) s hs2
    have hn1:0<n:=by omega
    obtain⟨k,hk⟩:∃ k,onesToQ s 6=k+1:=⟨onesToQ s 6 - 1,by have:=ho.2 hs1;omega⟩
    have hkn:k<n:=by omega
    have HK:Hid (onesToQ s 6=k+1):=hk
    obtain⟨b,off,rfl,hbw,hc⟩:=HG.out hn1
    have c0:=bcell hb hbw (hc k hkn)
    obtain⟨ps,hpl,⟨a2,cap2,hv2,g2⟩,hPs⟩:=HR.out k hkn
    have hRl:(T.getD k []).length=n:=(HGT.out.2 _ (getD_memQ T k [] (by rw[HGT.out.1];exact hkn))).1
    rw[hv2,hpl,hRl]at c0
    rw[hpl,hRl]at g2
    obtain⟨b2,off2,rfl,hbw2,hc2⟩:=g2 hn1
    have HC2:Hid (∀ i,i<n->w.cell? ⟨b2,off2+i,none⟩=some (ps.getD i (.bool false))):=hc2
    have HPs:Hid (∀ j,j<n->Poly w w.heap.size (ps.getD j (.bool false)) ((T.getD k []).getD j [])):=fun j hj=>hPs j (by rw[hRl];exact hj)
    have hbr:b<W1.heap.size:=Nat.lt_of_lt_of_le hbw hb.size
    have hszW:=hb.size
    clear hc hpl hv2 g2 hPs hc2 hRl ho hk hs2
    go_wp2_with (go_at_call 49;refine(ones_anyQ s _ (by omega)).mono ?_;rw[HK.out];rintro r w3 ⟨rfl,hb3⟩;refine Hid.out ?_)
    refine Lib.hid ?_
    have hszW3:=hb3.size
    have c3:w3.cell? ⟨b,off+k,none⟩=some (.slice (some ⟨b2,off2,none⟩) n cap2):=bcell hb3 hbr c0
    have hbr3:b<w3.heap.size:=Nat.lt_of_lt_of_le hbr hszW3
    have hg3:W1.grownBy (w3.alloc (.map #[] 0)) none:=grown_transQ (grown_below hb3 none) (World.grownBy_alloc _ _ _)
    have hrow3:=hrow.kept hg3 (Or.inr (by simp[Value.ownBlock]))
    have hlow:w.heap.size<W1.heap.size:=(hrow.lt w.heap.size rfl).2
    have HM3:Hid (MinorsQ (w3.alloc (.map #[] 0)) w.heap.size w3.heap.size T xs s):=(hMin.out.kept hg3 (by simp)).mono hszW3
    have HO3:Hid ((w3.alloc (.map #[] 0)).ownsMap Tryd.prog 3 (plainElem Tryd.prog 3) w3.heap.size 0 (.map []:DataW Unit)):=World.ownsMap_made _ _ _ _
    have HB3:Hid (Below w.heap.size w (w3.alloc (.map #[] 0))):=(hb.trans (hb3.mono hszW)).alloc (by omega) _
    clear c0 hrow hMin hb hb3 hg3
    go_wp2
    clear c3
    go_loopw [34] (fun i ws => ∃ (m np : Nat) (D : DataW Unit), m ≤ n ∧ i = .int .i64 m ∧ ws.ownsRow w.heap.size 60 1 (.slice (some ⟨w.heap.size, 0, none⟩) N N) N xs ∧ Hid (MinorsQ ws w.heap.size w3.heap.size T xs s) ∧
        ws.ownsMap Tryd.prog 3 (plainElem Tryd.prog 3) w3.heap.size np D/\Hid (np<=(progEQ s m).length*(64*szdQ k))/\Hid (∀ y,coefOf D y=sumEQ (rowAtQ T k) (detE (lastRowsQ T k)) (progEQ s m) y)/\Hid (KeysIn D (1000*((k:Int)+1)))/\Below w.heap.size w ws) (fun i _=>n-(intOf i).toNat)
    case atStart=>exact⟨0,0,.map [],Nat.zero_le _,rfl,hrow3,HM3,HO3.out,Nat.zero_le _,fun y=>coefOf_none rfl,keysIn_noneQ _,HB3.out⟩
    case round=>
     clear hrow3 HM3 HO3 HB3
     rename World=>W2
     obtain⟨m,np,D,hm,rfl,hrow,hMin,hown,hnp,hD,hKD,hb⟩:=hrel
     by_cases hml:m<n
     · have hszX:=hb.size
       have c2:=bcell hb hbw2 (HC2.out m hml)
       have hbr2:b2<W2.heap.size:=Nat.lt_of_lt_of_le hbw2 hszX
       have HQ:Hid (Poly W2 W2.heap.size (ps.getD m (.bool false)) ((T.getD k []).getD m [])):=((HPs.out m hml).on hb).mono hszX
       generalize ps.getD m (.bool false)=pv at c2 HQ
       by_cases hbit:(s >>> m)%2=1
       · have hcw:=bit_shrQ s (by omega) m (by omega)
         have HX:Hid (s >>> m<64):=hcw.2
         have hshr:=hcw.1
         have hand:=bit_andQ s (by omega) m (by omega)
         rw[hbit]at hand
         have hnot:=bit_notQ s (by omega) m (by omega) hbit
         have hql:=cols_lessQ s (by omega) m (by omega) hbit
         have hqe:=minor_lessQ T s k m (by omega) (by omega) hbit HK.out
         have HSN:Hid (∀ y,sumEQ (rowAtQ T k) (detE (lastRowsQ T k)) (progEQ s (m+1)) y=sumEQ (rowAtQ T k) (detE (lastRowsQ T k)) (progEQ s m) y+signOfQ s m*prodL ((T.getD k []).getD m []) (minorFQ T (s-2 ^ m)) y):=fun y=>by
          rw[sum_nextQ _ _ s m hbit y,hqe.1];rfl
         have HSG:Hid (signOfQ s m=if onesToQ (s >>> m) 6%2=0 then -1 else 1):=(rfl:signOfQ s m=if onesToQ (s >>> m) 6%2=0 then -1 else 1)
         have HLN:Hid ((progEQ s (m+1)).length=(progEQ s m).length+1):=len_nextQ s m hbit
         have HPL:Hid ((progEQ s m).length<=k+1):=(by have:=prog_lenQ s (by omega) m (by omega);rw[HK.out]at this;exact this:(progEQ s m).length<=k+1)
         have hs2:s<2 ^ n:=by rw[<-HNe.out];exact hlt
         have HBP:Hid (∀ x,-1000000000000000<=coefOf D x/\coefOf D x<=1000000000000000):=fun x=>by
          have h1:=part_absQ T n (by omega) (fun i c hi hc=>(good_atQ HGT.out hi hc).2) s k m hs2 HK.out hm x
          have h2:=(bd_leQ (k+1) (by omega)).1
          rw[hD.out]
          omega
         have HBQ:Hid (∀ x,-2000000000000<=minorFQ T (s-2 ^ m) x/\minorFQ T (s-2 ^ m) x<=2000000000000):=fun x=>by
          have h1:=minor_absQ T n (by omega) (fun i c hi hc=>(good_atQ HGT.out hi hc).2) (s-2 ^ m) (by omega) x
          have h2:=(bd_leQ k (by omega)).2 (by omega)
          rw[hqe.2]at h1
          omega
         have hnp1:np<=1000000000000000:=by
          have h1:=(szd_leQ (k+1) (by omega)).1
          have h2:(progEQ s m).length*(64*szdQ k)<=(k+1)*(64*szdQ k):=Nat.mul_le_mul_right _ HPL.out
          have h3:szdQ (k+1)=(k+1)*(64*szdQ k):=rfl
          have h4:=hnp.out
          omega
         have hnq1:szdQ k<=10000000000000:=(szd_leQ k (by omega)).2 (by omega)
         have hGD:=good_atQ HGT.out hkn hml
         have HGD:Hid (mayB ((T.getD k []).getD m [])=true/\sizeL ((T.getD k []).getD m [])<=100):=hGD
         obtain⟨bq,hxq,hBq,hCq,Dq,hoq,hcq,hkq⟩:=hMin.out (s - 2 ^ m) (by omega)
         rw[hqe.2]at hoq hkq
         have HCQ:Hid (∀ y,coefOf Dq y=minorFQ T (s-2 ^ m) y):=hcq
         have HKQ:Hid (KeysIn Dq (1000*(k:Int))):=hkq
         generalize hq:s-2 ^ m=q at hnot hql HSN HBQ hxq HCQ
         have hqN:q<N:=by omega
         have e0:W2.cell? ⟨w.heap.size,q,none⟩=some (.map (some bq)):=by rw[hrow.cellAt q (by omega)];exact hxq
         have hlow2:w.heap.size<W2.heap.size:=(hrow.lt w.heap.size rfl).2
         have hbpl:=hown.lt
         generalize (T.getD k []).getD m []=l at HQ HSN HGD
         have HE0:Hid (W2.cell? ⟨w.heap.size,q,none⟩=some (.map (some bq))):=e0
         have HOQ:Hid (W2.ownsMap Tryd.prog 3 (plainElem Tryd.prog 3) bq (szdQ k) Dq):=hoq
         have HOP:Hid (W2.ownsMap Tryd.prog 3 (plainElem Tryd.prog 3) w3.heap.size np D):=hown
         have HRW:Hid (W2.ownsRow w.heap.size 60 1 (.slice (some ⟨w.heap.size,0,none⟩) N N) N xs):=hrow
         have HBL:Hid (Below w.heap.size w W2):=hb
         clear e0 hoq hown hrow hb hxq hcq hkq hq hqe hql hGD hcw hs2
         obtain⟨c,hc⟩:∃ c,onesToQ (s >>> m) 6=c:=⟨_,rfl⟩
         have HCC:Hid (onesToQ (s >>> m) 6=c):=hc
         rw[hc]at HSG
         clear hc
         go_wp2_with (go_at_call 49;refine(ones_anyQ (s >>> m) _ HX.out).mono ?_;rw[HCC.out];rintro r w4 ⟨rfl,hb4⟩;refine Hid.out ?_)
         refine Lib.hid ?_
         have hsz4:=hb4.size
         have HP4:Hid (Poly w4 w4.heap.size pv l):=HQ.out.up hb4
         have HB4:Hid (Below W2.heap.size W2 w4):=hb4
         clear hb4 c2 hand hshr
         by_cases hc2:c%2=0
         · rw[if_pos hc2]at HSG
           have hd:((c:Int)%2==0)=true:=by rw[beq_iff_eq];omega
           have HG1:Hid (mayB l=true):=HGD.out.1
           have e4:w4.cell? ⟨w.heap.size,q,none⟩=some (.map (some bq)):=bcell HB4.out hlow2 HE0.out
           have hl4:w.heap.size<w4.heap.size:=by omega
           go_wp2_with (go_at_call 50;refine(addp_polyQ (-1) (Or.inr rfl) w3.heap.size np bq (szdQ k) D Dq pv l _ (HOP.out.kept (grown_below HB4.out none) (by simp)) (HOQ.out.kept (grown_below HB4.out none) (by simp)) (by omega) HG1.out HGD.out.2 HP4.out hnp1 hnq1 (1000*(k:Int)) (1000*((k:Int)+1)) (by omega) (by omega) (by omega) hKD.out HKQ.out HBP.out (fun x=>by rw[HCQ.out];exact HBQ.out x)).mono ?_;rintro r w6 ⟨D6,rfl,hown6,hD6,hK6,hg6⟩)
           go_roundw
           case rel=>
            have hgX:W2.grownBy w6 (some w3.heap.size):=grown_transQ (grown_below HB4.out _) hg6
            refine⟨m+1,_,D6,by omega,by go_num,HRW.out.kept hgX (Or.inr (by simp[Value.ownBlock];omega)),hMin.out.kept hgX (fun b h1 h2 e=>by have:=Option.some.inj e;omega),hown6,?_,fun y=>?_,hK6,HBL.out.grown hgX (by omega) (fun j hj=>by cases hj;omega)⟩
            · show np+64*szdQ k<=_
              rw[HLN.out,Nat.add_mul]
              have:=hnp.out
              omega
            · rw[HSN.out,HSG.out,hD6,hD.out,show coefOf Dq=minorFQ T q from funext HCQ.out]
           case measure=>simp only[intOf];omega
         · rw[if_neg hc2]at HSG
           have hd:((c:Int)%2==0)=false:=by rw[beq_eq_false_iff_ne];omega
           have HG1:Hid (mayB l=true):=HGD.out.1
           have e4:w4.cell? ⟨w.heap.size,q,none⟩=some (.map (some bq)):=bcell HB4.out hlow2 HE0.out
           have hl4:w.heap.size<w4.heap.size:=by omega
           go_wp2_with (go_at_call 50;refine(addp_polyQ 1 (Or.inl rfl) w3.heap.size np bq (szdQ k) D Dq pv l _ (HOP.out.kept (grown_below HB4.out none) (by simp)) (HOQ.out.kept (grown_below HB4.out none) (by simp)) (by omega) HG1.out HGD.out.2 HP4.out hnp1 hnq1 (1000*(k:Int)) (1000*((k:Int)+1)) (by omega) (by omega) (by omega) hKD.out HKQ.out HBP.out (fun x=>by rw[HCQ.out];exact HBQ.out x)).mono ?_;rintro r w6 ⟨D6,rfl,hown6,hD6,hK6,hg6⟩)
           go_roundw
           case rel=>
            have hgX:W2.grownBy w6 (some w3.heap.size):=grown_transQ (grown_below HB4.out _) hg6
            refine⟨m+1,_,D6,by omega,by go_num,HRW.out.kept hgX (Or.inr (by simp[Value.ownBlock];omega)),hMin.out.kept hgX (fun b h1 h2 e=>by have:=Option.some.inj e;omega),hown6,?_,fun y=>?_,hK6,HBL.out.grown hgX (by omega) (fun j hj=>by cases hj;omega)⟩
            · show np+64*szdQ k<=_
              rw[HLN.out,Nat.add_mul]
              have:=hnp.out
              omega
            · rw[HSN.out,HSG.out,hD6,hD.out,show coefOf Dq=minorFQ T q from funext HCQ.out]
           case measure=>simp only[intOf];omega
       · have hand:=bit_andQ s (by omega) m (by omega)
         have hz:(s >>> m)%2=0:=by omega
         rw[hz]at hand
         have HSK:Hid (progEQ s (m+1)=progEQ s m):=sum_skipQ s m hbit
         clear hbit hz
         go_wp2
         go_roundw
         case rel=>exact⟨m+1,np,D,by omega,by go_num,hrow,hMin,hown,by rw[HSK.out];exact hnp,by rw[HSK.out];exact hD,hKD,hb⟩
         case measure=>simp only[intOf];omega
     · obtain rfl:m=n:=by omega
       have f0:=hrow.frozenAt s
       obtain⟨u0,hu0⟩:∃ u,xs[s]?=some u:=⟨xs[s]'(by omega),List.getElem?_eq_getElem (by omega)⟩
       have d0:W2.cell? ⟨w.heap.size,s,none⟩=some u0:=by rw[hrow.cellAt s (by omega)];exact hu0
       have hlow2:w.heap.size<W2.heap.size:=(hrow.lt w.heap.size rfl).2
       have hs2:s<2 ^ m:=by rw[<-HNe.out];exact hlt
       have HST:Hid ((W2.setCell ⟨w.heap.size,s,none⟩ (.map (some w3.heap.size))).ownsRow w.heap.size 60 1 (.slice (some ⟨w.heap.size,0,none⟩) N N) N (xs.set s (.map (some w3.heap.size)))/\W2.grownBy (W2.setCell ⟨w.heap.size,s,none⟩ (.map (some w3.heap.size))) (some w.heap.size)):=hrow.stored s _
       have hbpl:=hown.lt
       have HOP:Hid (W2.ownsMap Tryd.prog 3 (plainElem Tryd.prog 3) w3.heap.size np D):=hown
       have HBL:Hid (Below w.heap.size w W2):=hb
       have HMI:Hid (MinorsQ W2 w.heap.size w3.heap.size T xs s):=hMin
       clear hown hb hrow hu0 hMin
       go_wp2
       go_roundw
       case rel=>
        obtain⟨hst,hgs⟩:=HST.out
        refine⟨s+1,_,by omega,by omega,by go_num,by simpa using hxl,hst,?_,HBL.out.grown hgs (by omega) (fun j hj=>by cases hj;omega)⟩
        intro t ht
        by_cases hts:t=s
        · subst hts
          refine⟨w3.heap.size,by rw[List.getElem?_set_self (by omega)],by omega,Nat.lt_of_lt_of_le hbpl hgs.size,D,?_,fun y=>?_,?_⟩
          · refine(HOP.out.kept hgs (fun e=>by have:=Option.some.inj e;omega)).mono ?_
            rw[HK.out]
            have h1:=prog_lenQ t (by omega) m (by omega)
            rw[HK.out]at h1
            exact Nat.le_trans hnp.out (Nat.mul_le_mul_right _ h1)
          · rw[hD.out,minor_progQ T m t k (by omega) hs2 HK.out]
          · rw[HK.out]
            exact hKD.out
        · obtain⟨b',h1,h2,h3,D',h4,h5,h6⟩:=HMI.out t (by omega)
          exact⟨b',by rw[List.getElem?_set_ne (by omega)];exact h1,h2,by have:=hgs.size;omega,D',h4.kept hgs (fun e=>by have:=Option.some.inj e;omega),h5,h6⟩
       case measure=>simp only[intOf];omega
  · obtain rfl:s=N:=by omega
    obtain⟨b',h1,h2,h3,D',h4,h5,h6⟩:=hMin.out (s - 1) (by omega)
    have d0:W1.cell? ⟨w.heap.size,s-1,none⟩=some (.map (some b')):=by rw[hrow.cellAt (s-1) (by omega)];exact h1
    have hlow2:w.heap.size<W1.heap.size:=(hrow.lt w.heap.size rfl).2
    have HO:Hid (W1.ownsMap Tryd.prog 3 (plainElem Tryd.prog 3) b' (szdQ (onesToQ (s-1) 6)) D'):=h4
    have H5:Hid (∀ y,coefOf D' y=minorFQ T (s-1) y):=h5
    have H6:Hid (KeysIn D' (1000*(onesToQ (s-1) 6:Int))):=h6
    clear h1 h4 h5 h6 hrow hMin
    have hix:(s:Int)-1=((s-1:Nat):Int):=by omega
    go_wp2
    go_ret
    have ho:=ones_fullQ n (by omega)
    have hmd:=minor_detQ T (by rw[HGT.out.1];omega)
    rw[HGT.out.1]at hmd
    have hO:=HO.out
    have h5:=H5.out
    have h6:=H6.out
    rw[HNe.out,ho]at hO h6
    rw[HNe.out,hmd]at h5
    exact⟨b',D',rfl,by omega,hO,h5,h6,hb⟩
end Go.Proofs.YtiliihlkpknhdaaDoor.Poly
/- The walk of poly.Det. -/
namespace Go.Proofs.YtiliihlkpknhdaaDoor.Poly
open Go.RowKit Go.Maps
set_option maxHeartbeats 2000000
set_option maxRecDepth 100000
theorem coll_lenQ {D:DataW Unit} {left:Lit->Bool} {acc:List (Int×Int)} (h:Coll D left acc) (N:Nat) (hK:KeysIn D (N:Int)):acc.length<=2*N+1:=by
 have := few_intsQ N (acc.map Prod.fst) (by
  rw[List.pairwise_map]
  exact h.once) (fun x hx=>by
  simp only[List.mem_map]at hx
  obtain⟨t,ht,rfl⟩:=hx
  have h1:=(h.mem t.1 t.2).1 ht
  refine hK t.1 ?_
  cases hh:Maps.has D (.int .i64 t.1) with
  |true=>rfl
  |false=>rw[coefOf_none hh]at h1;exact absurd h1.2.1.symm h1.2.2)
 simpa using this
theorem terms34kQ (b n : Nat) (D : DataW Unit) (w : World) (hown : w.ownsMap Tryd.prog 3 (plainElem Tryd.prog 3) b n D) (hn : ∀ left acc, Coll D left acc → acc.length ≤ 1000000) :
    Calls Tryd.prog 29 #[.map (some b)] w fun e w'=>∃ v l,e=.returned v/\w'.ownsRow w.heap.size 40 2 v l.length (flat l)/\Canon l (coefOf D)/\Below w.heap.size w w':=by
 obtain⟨i0,hi,hz0,hz1,hz2⟩:=info_parts infoTerm
 have hbl:=hown.lt
 have HL:Hid (∀ left acc,Coll D left acc->acc.length<=1000000):=hn
 clear hn
 go_enter Tryd.func29,Tryd.ntmps29
 go_wp2_with (first|(at_range;refine wpList_range_own _ rfl _ 60 rfl 3 3 law3 Tryd.underlying60 _ b n _ rfl hown ?_;intro w0 hrg0 hg0 hs0)|go_in)
 go_frame
 go_loopw [3] (fun v wr => ∃ (left : Lit → Bool) (cnt : Nat) (acc : List (Int × Int)), wr.ranges Tryd.prog 3 (plainElem Tryd.prog 3) b w.heap.size n D left cnt ∧
     wr.ownsRow w.heap.size 40 2 v acc.length (flat acc)/\Hid (Coll D left acc)/\Below w.heap.size w wr)
  (fun _ wr=>wr.rangeLeft b w.heap.size)
 case atStart=>
  exact⟨_,_,[],hrg0,World.ownsRow_nil _ _ _ _,coll_start D,(Below.refl _ _).grown hg0 (Nat.le_refl _) (fun j hj=>by cases hj)⟩
 case round=>
  obtain⟨left,cnt,acc,hrg,hrow,hC,hnx⟩:=hrel
  have hal:=HL.out _ _ hC.out
  go_wp2_with (first
   |(at_next;refine wpList_next_ranges_ii _ rfl _ rfl 3 3 .i64 .i64 law3 Tryd.underlying3 Tryd.underlying3 b w.heap.size n _ _ _ rfl hrg ?_ ?_)
   |go_in)
  · intro hc0 hl0
    have hc:=sort_list w.heap.size _ acc _ (by omega) hrow
    go_wp2_with (go_at_call 51;refine hc.mono ?_;rintro e w' ⟨rfl,l,hp,hs,hrow2,hg2⟩)
    go_ret
    refine⟨_,l,rfl,hrow2,coll_end hC.out hl0 hp hs,hnx.grown hg2 hnx.size (fun k hk=>(hrow.lt k hk).1)⟩
  · intro x c w1 cnt1 hwx hwc hlx hat hrg1 hlt hg1 hs1 hen
    have hrow1:=hrow.kept hg1 (Or.inr (row_ne_iter hrow hrg).symm)
    have hnx1:Below w.heap.size w w1:=hnx.grown hg1 hnx.size (fun j hj=>by cases hj;exact Nat.le_refl _)
    have Hat:Hid _:=hat
    clear hs1 hat
    by_cases hc:c=0
    · subst hc
      go_wp2
      go_roundw
      case rel=>exact⟨_,cnt1,acc,hrg1,hrow1,coll_zero hC.out Hat.out,hnx1⟩
      case measure=>rw[hrg1.left_eq,hrg.left_eq];exact hlt
    · have hcb:(c != 0)=true:=by rw[bne_iff_ne];exact hc
      have HC0:Hid (c≠0):=hc
      have hsz1:=hnx1.size
      clear hc
      go_wp2_with (first
       |(at_builtin;refine wpList_append_own _ rfl _ _ 34 rfl w.heap.size 40 i0 (.agg #[.int .i64 0,.int .i64 0]) 2 16 Tryd.underlying34 hi hz0 hz1 hz2 rfl (by decide) _ _ _ rfl (hrow1.alloc _) ⟨w1.heap.size,0,none⟩ 1 1 [.int .i64 x,.int .i64 c] rfl rfl (new_cells _ _ _) (pair_one _ _) (by unfold maxLen;omega) (by omega) (by simp;omega) ?_;intro v' w3 hown' hg3 _;go_frame)
       |go_in)
      have hrg3:=(hrg1.alloc _).kept hg3 (row_ne_low hrow1 hbl) (row_ne_iter hrow1 hrg1)
      go_roundw
      case rel=>
       refine⟨_,cnt1,acc++[(x,c)],hrg3,?_,coll_more hC.out hlx HC0.out Hat.out,(hnx1.alloc hsz1 _).grown hg3 (by simp;omega) (fun j hj=>(hrow1.lt j hj).1)⟩
       rw[flat_append,List.length_append]
       exact hown'
      case measure=>rw[hrg3.left_eq,hrg.left_eq];exact hlt
theorem good_ofQ {T:List (List (List (Int×Int)))} (h:squareB T=true) (h1:everyB mayB T=true) (h2:everyB fewB T=true):GoodTQ T T.length:=by
 refine⟨rfl,fun R hR=>?_⟩
 obtain⟨i,hi,rfl⟩:=List.getElem_of_mem hR
 have e:T.getD i []=T[i]:=by simp[List.getD,hi]
 have hs:=((square_iff T).1 h).2 i hi
 rw[e]at hs
 refine⟨hs,fun l hl=>?_⟩
 obtain⟨j,hj,rfl⟩:=List.getElem_of_mem hl
 have e2:(T.getD i []).getD j []=T[i][j]:=by rw[e];simp[List.getD,hj]
 have h3:=(every_iff mayB T).1 h1 i hi j (by rw[e];exact hj)
 have h4:=(every_iff fewB T).1 h2 i hi j (by rw[e];exact hj)
 rw[e2]at h3 h4
 exact⟨h3,by simpa[fewB] using h4⟩
theorem det_anyQ (v : Value) (T : List (List (List (Int × Int)))) (w : World) (hl : T.length ≤ maxLen) (hr : ∀ i, i < T.length → (T.getD i []).length ≤ maxLen) (hp : ∀ i, i < T.length → ∀ j, j < (T.getD i []).length → ((T.getD i []).getD j []).length ≤ maxLen) (h : Table w w.heap.size v T) :
    Calls Tryd.prog 11 #[v] w fun e w'=>∃ v' l,e=.returned (.tuple #[v',.int .i64 (detMayN T)])/\Poly w' w'.heap.size v' l/\(detMayN T≠0->l=[])/\(detMayN T=0->GoodTQ T T.length/\T.length<=6/\Canon l (detOfQ T))/\Below w.heap.size w w':=by
 have HT:Hid (Table w w.heap.size v T):=h
 have HR:Hid (∀ i,i<T.length->(T.getD i []).length<=maxLen):=hr
 have HP:Hid (∀ i,i<T.length->∀ j,j<(T.getD i []).length->((T.getD i []).getD j []).length<=maxLen):=hp
 clear h hr hp
 cases hsq:squareB T with
 |false=>
  have HSQ:Hid (squareB T=false):=hsq
  have HE:Hid (detMayN T=2):=detMay_size hsq
  clear hsq
  go_enter Tryd.func11,Tryd.ntmps11
  go_wp2_with (go_at_call 24;refine(square_any v T _ hl HR.out HT.out).mono ?_;rw[HSQ.out];rintro r w1 ⟨rfl,hb1⟩)
  go_ret2
  exact⟨.slice none 0 0,[],by rw[HE.out];rfl,Or.inl ⟨rfl,rfl⟩,fun _=>rfl,(fun e=>by rw[HE.out]at e;cases e),hb1⟩
 |true=>
  have hs6:=(square_iff T).1 hsq
  have h6:=hs6.1
  have HS6:Hid (∀ i,i<T.length->(T.getD i []).length<=6):=fun i hi=>by rw[hs6.2 i hi];exact hs6.1
  have HSQ:Hid (squareB T=true):=hsq
  clear hs6 hsq
  go_enter Tryd.func11,Tryd.ntmps11
  go_wp2_with (go_at_call 24;refine(square_any v T _ hl HR.out HT.out).mono ?_;rw[HSQ.out];rintro r w1 ⟨rfl,hb1⟩;refine Hid.out ?_)
  refine Lib.hid ?_
  have hb01:Hid (Below w.heap.size w w1):=hb1
  have HT1:Hid (Table w1 w1.heap.size v T):=HT.out.up hb1
  clear hb1
  cases hm:everyB mayB T with
  |false=>
   have HM:Hid (everyB mayB T=false):=hm
   have HE:Hid (detMayN T=1):=detMay_form HSQ.out hm
   clear hm
   go_wp2_with (go_at_call 25;refine(every_may v T _ h6 HS6.out HP.out HT1.out).mono ?_;rw[HM.out];rintro r w2 ⟨rfl,hb2⟩)
   go_ret2
   exact⟨.slice none 0 0,[],by rw[HE.out];rfl,Or.inl ⟨rfl,rfl⟩,fun _=>rfl,(fun e=>by rw[HE.out]at e;cases e),hb01.out.trans (hb2.mono hb01.out.size)⟩
  |true=>
   have HM:Hid (everyB mayB T=true):=hm
   have HM2:Hid (∀ i,i<T.length->∀ j,j<(T.getD i []).length->mayB ((T.getD i []).getD j [])=true):=(every_iff mayB T).1 hm
   clear hm
   go_wp2_with (go_at_call 25;refine(every_may v T _ h6 HS6.out HP.out HT1.out).mono ?_;rw[HM.out];rintro r w2 ⟨rfl,hb2⟩;refine Hid.out ?_)
   refine Lib.hid ?_
   have hb02:Hid (Below w.heap.size w w2):=hb01.out.trans (hb2.mono hb01.out.size)
   have HT2:Hid (Table w2 w2.heap.size v T):=HT.out.up hb02.out
   clear hb2 hb01 HT1
   cases hf:everyB fewB T with
   |false=>
    have HF:Hid (everyB fewB T=false):=hf
    have HE:Hid (detMayN T=3):=detMay_range HSQ.out HM.out hf
    clear hf
    go_wp2_with (go_at_call 25;refine(every_few v T _ h6 HS6.out HM2.out HT2.out).mono ?_;rw[HF.out];rintro r w3 ⟨rfl,hb3⟩)
    go_ret2
    exact⟨.slice none 0 0,[],by rw[HE.out];rfl,Or.inl ⟨rfl,rfl⟩,fun _=>rfl,(fun e=>by rw[HE.out]at e;cases e),hb02.out.trans (hb3.mono hb02.out.size)⟩
   |true=>
    have HF:Hid (everyB fewB T=true):=hf
    have HE:Hid (detMayN T=0):=detMay_ok HSQ.out HM.out hf
    have HGT:Hid (GoodTQ T T.length):=good_ofQ HSQ.out HM.out hf
    clear hf
    go_wp2_with (go_at_call 25;refine(every_few v T _ h6 HS6.out HM2.out HT2.out).mono ?_;rw[HF.out];rintro r w3 ⟨rfl,hb3⟩;refine Hid.out ?_)
    refine Lib.hid ?_
    have hb03:Hid (Below w.heap.size w w3):=hb02.out.trans (hb3.mono hb02.out.size)
    have HT3:Hid (Table w3 w3.heap.size v T):=HT.out.up hb03.out
    clear hb3 hb02 HT2
    go_wp2_with (go_at_call 28;refine(determinant_anyQ v T T.length _ h6 HGT.out HT3.out).mono ?_;rintro r w4 ⟨bm,D,rfl,hbm,hom,hcm,hkm,hb4⟩;refine Hid.out ?_)
    refine Lib.hid ?_
    have HCM:Hid (∀ y,coefOf D y=detOfQ T y):=hcm
    have HLN:Hid (∀ left acc,Coll D left acc->acc.length<=1000000):=fun left acc hC=>Nat.le_trans (coll_lenQ hC (1000*T.length) (by rw[Int.natCast_mul];exact hkm)) (by omega)
    have hb04:Hid (Below w.heap.size w w4):=hb03.out.trans (hb4.mono hb03.out.size)
    clear hcm hkm hb4 hb03 HT3 hbm
    go_wp2_with (go_at_call 29;refine(terms34kQ bm _ D _ hom HLN.out).mono ?_;rintro r w5 ⟨vr,lr,rfl,hrow5,hcan5,hb5⟩)
    go_ret2
    exact⟨vr,lr,by rw[HE.out];rfl,Poly.ofRow hrow5,fun e=>absurd HE.out e,fun _=>⟨HGT.out,h6,canon_congr hcan5 HCM.out⟩,hb04.out.trans (hb5.mono hb04.out.size)⟩
end Go.Proofs.YtiliihlkpknhdaaDoor.Poly
