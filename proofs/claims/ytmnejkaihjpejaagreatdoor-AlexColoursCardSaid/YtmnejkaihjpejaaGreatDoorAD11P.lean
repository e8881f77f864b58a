/- Several texts of the proof, one behind the other. -/
import Derived.Test.YtmnejkaihjpejaaGreatDoorAD6P
import Derived.Test.YtmnejkaihjpejaaGreatDoorPDetP
/- The walk of poly.determinant: the map that it hands back has the determinant's coefficients. -/
namespace Go.Proofs.YtmnejkaihjpejaaGreatDoor.Poly
open Go.RowKit Go.Maps
set_option maxHeartbeats 4000000
set_option maxRecDepth 100000
theorem infoWork:(Tryz.prog.info? 72).map (fun i=>(i.zero,i.size,i.bytes))=some (some (.map none),1,8):=by kernel_rfl
theorem pow_wrap:∀ n,n<11->wrap64 (2 ^ n)=((2 ^ n:Nat):Int):=by decide +kernel
theorem bit_and:∀ s:Nat,s<1024->∀ m,m<10->bits BinOp.and IntKind.i64 ((s:Int) / 2 ^ m) 1=(((s >>> m)%2:Nat):Int):=by decide +kernel
theorem bit_not:∀ s:Nat,s<1024->∀ m,m<10->(s >>> m)%2=1->bits BinOp.andNot IntKind.i64 (s:Int) (wrap64 (2 ^ m))=((s-2 ^ m:Nat):Int):=by decide +kernel
theorem bit_shr:∀ s:Nat,s<1024->∀ m,m<10->IntKind.u64.wrap ((s:Int) / 2 ^ m)=((s >>> m:Nat):Int)/\s >>> m<1024:=by decide +kernel
theorem keysIn_none (N:Int):KeysIn (.map []:DataW Unit) N:=fun x hx=>by cases hx
theorem make46n (w:World):(Instr.makeMap 72 none).run Tryz.prog w=.ok (.map (some w.heap.size)) (w.alloc (.map #[] 0)):=rfl
def MinorAt (w:World) (T:List (List (List (Int×Int)))) (t b:Nat):Prop:=
 ∃ D:DataW Unit,w.ownsMap Tryz.prog 3 (plainElem Tryz.prog 3) b (szd (onesTo t 10)) D/\(∀ y,coefOf D y=minorF T t y)/\KeysIn D (1000*(onesTo t 10:Int))
def Minors (w:World) (B C:Nat) (T:List (List (List (Int×Int)))) (xs:List Value) (s:Nat):Prop:=
 ∀ t,t<s->∃ b,xs[t]?=some (.map (some b))/\B<b/\b<C/\MinorAt w T t b
theorem Minors.kept {w w':World} {B C s:Nat} {T:List (List (List (Int×Int)))} {xs:List Value} {row:Option Nat} (h:Minors w B C T xs s) (hg:w.grownBy w' row) (hne:∀ b,B<b->b<C->row≠some b):Minors w' B C T xs s:=by
 intro t ht
 obtain⟨b,h1,h2,h3,D,h4,h5,h6⟩:=h t ht
 exact⟨b,h1,h2,h3,D,h4.kept hg (fun e=>hne b h2 h3 e.symm),h5,h6⟩
theorem Minors.mono {w:World} {B C C' s:Nat} {T:List (List (List (Int×Int)))} {xs:List Value} (h:Minors w B C T xs s) (hC:C<=C'):Minors w B C' T xs s:=by
 intro t ht
 obtain⟨b,h1,h2,h3,h4⟩:=h t ht
 exact⟨b,h1,h2,Nat.lt_of_lt_of_le h3 hC,h4⟩
theorem minors_zero {w : World} {B C b : Nat} {T : List (List (List (Int × Int)))} {xs : List Value} (hB : B < b) (hC : b < C) (hx : xs[0]? = some (.map (some b)))
    (ho:w.ownsMap Tryz.prog 3 (plainElem Tryz.prog 3) b 1 ((DataW.map []:DataW Unit).put (.int .i64 0) (.lit (.int .i64 1)))):Minors w B C T xs 1:=by
 intro t ht
 obtain rfl:t=0:=by omega
 refine⟨b,hx,hB,hC,_,ho,fun y=>?_,keysIn_put (fun x hx=>by cases hx) (by decide) (by decide) _⟩
 rw[coefOf_put ⟨_,rfl⟩,minor_zero]
 unfold oneF
 by_cases h:(0:Int)=y
 · rw[if_pos h,if_pos h.symm]
 · rw[if_neg h,if_neg (fun e=>h e.symm)]
   exact coefOf_none rfl
theorem determinant_any (v : Value) (T : List (List (List (Int × Int)))) (n : Nat) (w : World) (hn : n ≤ 10) (hT : GoodT T n) (h : Table w w.heap.size v T) :
    Calls Tryz.prog 46 #[v] w fun e w'=>∃ (b:Nat) (D:DataW Unit),e=.returned (.map (some b))/\w.heap.size<=b/\w'.ownsMap Tryz.prog 3 (plainElem Tryz.prog 3) b (szd n) D/\(∀ y,coefOf D y=detOf T y)/\KeysIn D (1000*(n:Int))/\Below w.heap.size w w':=by
 obtain⟨i0,hi,hz0,hz1,hz2⟩:=info_parts infoWork
 obtain⟨rs,hrl,⟨a,cap,rfl,g⟩,hR⟩:=h
 have hTl:=hT.1
 obtain⟨N,hNe,hN,hN1,hN2⟩:∃ N:Nat,N=2 ^ n/\wrap64 (2 ^ n)=(N:Int)/\1<=N/\N<=1024:=⟨2 ^ n,rfl,pow_wrap n (by omega),Nat.pow_pos (by decide),Nat.pow_le_pow_right (n:=2) (by decide) hn⟩
 have HN:Hid (wrap64 (2 ^ n)=(N:Int)):=hN
 have HNe:Hid (N=2 ^ n):=hNe
 have HGT:Hid (GoodT T n):=hT
 have HR:Hid (∀ i,i<n->Row w w.heap.size (rs.getD i (.bool false)) (T.getD i [])):=fun i hi=>hR i (by omega)
 rw[hrl,hTl]at g ⊢
 have HG:Hid (0<n->∃ b off,a=some ⟨b,off,none⟩/\b<w.heap.size/\∀ i,i<n->w.cell? ⟨b,off+i,none⟩=some (rs.getD i (.bool false))):=g
 have hmm:=make46n
 clear hN hNe hT hR g hTl hrl
 go_enter Tryz.func46,Tryz.ntmps46
 go_wp2_with (first|(at_make;refine wpList_make_full _ rfl _ _ 124 rfl w.heap.size 72 i0 (.map none) 1 Tryz.underlying124 hi hz0 hz1 .i64 .i64 _ _ N rfl rfl HN.out HN.out (by rw[hz2];omega) (by unfold maxLen;omega) (Nat.le_refl _) ?_;intro w1 hrow hg1;refine Hid.out ?_))
 refine Lib.hid ?_
 have hown0:(w1.alloc (.map #[] 0)).ownsMap Tryz.prog 3 (plainElem Tryz.prog 3) w1.heap.size 0 (.map []:DataW Unit):=World.ownsMap_made _ _ _ _
 obtain⟨w2,hins,hown2,hg2⟩:=hown0.update law3 Tryz.underlying72 (by unfold maxLen;omega) (keyOf_int_mk Tryz.underlying3 (WalkArith.wf_i64 (by omega : -9223372036854775808<=(0:Int)/\(0:Int)<=9223372036854775807))) (plainElem_int Tryz.underlying3 (WalkArith.wf_i64 (by omega : -9223372036854775808<=(1:Int)/\(1:Int)<=9223372036854775807)))
 have hsz1:=hg1.size
 have hsz2:=hg2.size
 simp only[World.alloc,Array.size_push]at hsz2
 have hlt1:w.heap.size<w1.heap.size:=(hrow.lt w.heap.size rfl).2
 have hrow2:=(hrow.alloc (.map #[] 0)).kept hg2 (Or.inr (by simp[Value.ownBlock];omega))
 rw[show(madeCells (Value.map none).cells (N*1)).toList=List.replicate N (Value.map none) by rw[Nat.mul_one];exact toList_madeCells_one _ _]at hrow2
 have f0:=hrow2.frozenAt 0
 have d0:w2.cell? ⟨w.heap.size,0,none⟩=some (.map none):=by
  rw[hrow2.cellAt 0 (by omega),List.getElem?_replicate,if_pos (by omega)]
 have hB2:Below w.heap.size w w2:=(((Below.refl _ _).grown hg1 (Nat.le_refl _) (fun j hj=>by cases hj)).alloc hsz1 _).grown hg2 (by simp;omega) (fun j hj=>by cases hj;omega)
 have HST:Hid (∀ u,(w2.setCell ⟨w.heap.size,0,none⟩ u).ownsRow w.heap.size 72 1 (.slice (some ⟨w.heap.size,0,none⟩) N N) N ((List.replicate N (Value.map none)).set 0 u)/\w2.grownBy (w2.setCell ⟨w.heap.size,0,none⟩ u) (some w.heap.size)):=fun u=>hrow2.stored 0 u
 have HO2:Hid (w2.ownsMap Tryz.prog 3 (plainElem Tryz.prog 3) w1.heap.size 1 ((DataW.map []:DataW Unit).put (.int .i64 0) (.lit (.int .i64 1)))):=hown2
 have HB2:Hid (Below w.heap.size w w2):=hB2
 clear hB2 hown2 hrow2 hg1 hg2 hown0 hrow
 go_wp2
 clear hins f0 d0 hmm
 have hmm:=make46n
 go_loopw [4] (fun i wr=>∃ (s:Nat) (xs:List Value),1<=s/\s<=N/\i=.int .i64 s/\xs.length=N/\wr.ownsRow w.heap.size 72 1 (.slice (some ⟨w.heap.size,0,none⟩) N N) N xs/\Hid (Minors wr w.heap.size wr.heap.size T xs s)/\Below w.heap.size w wr) (fun i _=>N-(intOf i).toNat)
 case atStart=>
  have hst:=HST.out (.map (some w1.heap.size))
  refine⟨1,(List.replicate N (Value.map none)).set 0 (.map (some w1.heap.size)),Nat.le_refl _,hN1,rfl,by simp,hst.1,?_,HB2.out.grown hst.2 (by omega) (fun j hj=>by cases hj;omega)⟩
  exact minors_zero hlt1 (Nat.lt_of_lt_of_le (by omega) hst.2.size) (by rw[List.getElem?_set_self (by simp;omega)]) (HO2.out.kept hst.2 (fun e=>by have:=Option.some.inj e;omega))
 case round=>
  clear HST HO2 HB2 hlt1 hsz1 hsz2 w2
  rename World=>W1
  obtain⟨s,xs,hs1,hsN,rfl,hxl,hrow,hMin,hb⟩:=hrel
  by_cases hlt:s<N
  · have hs2:s<2 ^ n:=by rw[<-HNe.out];exact hlt
    have ho:=ones_le n (by omega) s hs2
    have hn1:0<n:=by omega
    obtain⟨k,hk⟩:∃ k,onesTo s 10=k+1:=⟨onesTo s 10 - 1,by have:=ho.2 hs1;omega⟩
    have hkn:k<n:=by omega
    have HK:Hid (onesTo s 10=k+1):=hk
    obtain⟨b,off,rfl,hbw,hc⟩:=HG.out hn1
    have c0:=bcell hb hbw (hc k hkn)
    obtain⟨ps,hpl,⟨a2,cap2,hv2,g2⟩,hPs⟩:=HR.out k hkn
    have hRl:(T.getD k []).length=n:=(HGT.out.2 _ (getD_mem T k [] (by rw[HGT.out.1];exact hkn))).1
    rw[hv2,hpl,hRl]at c0
    rw[hpl,hRl]at g2
    obtain⟨b2,off2,rfl,hbw2,hc2⟩:=g2 hn1
    have HC2:Hid (∀ i,i<n->w.cell? ⟨b2,off2+i,none⟩=some (ps.getD i (.bool false))):=hc2
    have HPs:Hid (∀ j,j<n->Poly w w.heap.size (ps.getD j (.bool false)) ((T.getD k []).getD j [])):=fun j hj=>hPs j (by rw[hRl];exact hj)
    have hbr:b<W1.heap.size:=Nat.lt_of_lt_of_le hbw hb.size
    have hszW:=hb.size
    clear hc hpl hv2 g2 hPs hc2 hRl ho hk hs2
    go_wp2_with (go_at_call 69;refine(ones_any s _ (by omega)).mono ?_;rw[HK.out];rintro r w3 ⟨rfl,hb3⟩;refine Hid.out ?_)
    refine Lib.hid ?_
    have hszW3:=hb3.size
    have c3:w3.cell? ⟨b,off+k,none⟩=some (.slice (some ⟨b2,off2,none⟩) n cap2):=bcell hb3 hbr c0
    have hbr3:b<w3.heap.size:=Nat.lt_of_lt_of_le hbr hszW3
    have hg3:W1.grownBy (w3.alloc (.map #[] 0)) none:=grown_trans (grown_below hb3 none) (World.grownBy_alloc _ _ _)
    have hrow3:=hrow.kept hg3 (Or.inr (by simp[Value.ownBlock]))
    have hlow:w.heap.size<W1.heap.size:=(hrow.lt w.heap.size rfl).2
    have HM3:Hid (Minors (w3.alloc (.map #[] 0)) w.heap.size w3.heap.size T xs s):=(hMin.out.kept hg3 (by simp)).mono hszW3
    have HO3:Hid ((w3.alloc (.map #[] 0)).ownsMap Tryz.prog 3 (plainElem Tryz.prog 3) w3.heap.size 0 (.map []:DataW Unit)):=World.ownsMap_made _ _ _ _
    have HB3:Hid (Below w.heap.size w (w3.alloc (.map #[] 0))):=(hb.trans (hb3.mono hszW)).alloc (by omega) _
    clear c0 hrow hMin hb hb3 hg3
    go_wp2
    clear c3
    go_loopw [34] (fun i ws => ∃ (m np : Nat) (D : DataW Unit), m ≤ n ∧ i = .int .i64 m ∧ ws.ownsRow w.heap.size 72 1 (.slice (some ⟨w.heap.size, 0, none⟩) N N) N xs ∧ Hid (Minors ws w.heap.size w3.heap.size T xs s) ∧
        ws.ownsMap Tryz.prog 3 (plainElem Tryz.prog 3) w3.heap.size np D/\Hid (np<=(progE s m).length*(4*szd k))/\Hid (∀ y,coefOf D y=sumE (rowAt T k) (detE (lastRows T k)) (progE s m) y)/\Hid (KeysIn D (1000*((k:Int)+1)))/\Below w.heap.size w ws) (fun i _=>n-(intOf i).toNat)
    case atStart=>exact⟨0,0,.map [],Nat.zero_le _,rfl,hrow3,HM3,HO3.out,Nat.zero_le _,fun y=>coefOf_none rfl,keysIn_none _,HB3.out⟩
    case round=>
     clear hrow3 HM3 HO3 HB3
     rename World=>W2
     obtain⟨m,np,D,hm,rfl,hrow,hMin,hown,hnp,hD,hKD,hb⟩:=hrel
     by_cases hml:m<n
     · have hszX:=hb.size
       have c2:=bcell hb hbw2 (HC2.out m hml)
       have hbr2:b2<W2.heap.size:=Nat.lt_of_lt_of_le hbw2 hszX
       have HQ:Hid (Poly W2 W2.heap.size (ps.getD m (.bool false)) ((T.getD k []).getD m [])):=((HPs.out m hml).on hb).mono hszX
       generalize ps.getD m (.bool false)=pv at c2 HQ
       by_cases hbit:(s >>> m)%2=1
       · have hcw:=bit_shr s (by omega) m (by omega)
         have HX:Hid (s >>> m<1024):=hcw.2
         have hshr:=hcw.1
         have hand:=bit_and s (by omega) m (by omega)
         rw[hbit]at hand
         have hnot:=bit_not s (by omega) m (by omega) hbit
         have hql:=cols_less s (by omega) m (by omega) hbit
         have hqe:=minor_less T s k m (by omega) (by omega) hbit HK.out
         have HSN:Hid (∀ y,sumE (rowAt T k) (detE (lastRows T k)) (progE s (m+1)) y=sumE (rowAt T k) (detE (lastRows T k)) (progE s m) y+signOf s m*prodL ((T.getD k []).getD m []) (minorF T (s-2 ^ m)) y):=fun y=>by
          rw[sum_next _ _ s m hbit y,hqe.1];rfl
         have HSG:Hid (signOf s m=if onesTo (s >>> m) 10%2=0 then -1 else 1):=(rfl:signOf s m=if onesTo (s >>> m) 10%2=0 then -1 else 1)
         have HLN:Hid ((progE s (m+1)).length=(progE s m).length+1):=len_next s m hbit
         have HPL:Hid ((progE s m).length<=k+1):=(by have:=prog_len s (by omega) m (by omega);rw[HK.out]at this;exact this:(progE s m).length<=k+1)
         have hs2:s<2 ^ n:=by rw[<-HNe.out];exact hlt
         have HBP:Hid (∀ x,-1000000000000000<=coefOf D x/\coefOf D x<=1000000000000000):=fun x=>by
          have h1:=part_abs T n (by omega) (fun i c hi hc=>(good_at HGT.out hi hc).2) s k m hs2 HK.out hm x
          have h2:=(bd_le (k+1) (by omega)).1
          rw[hD.out]
          omega
         have HBQ:Hid (∀ x,-2000000000000<=minorF T (s-2 ^ m) x/\minorF T (s-2 ^ m) x<=2000000000000):=fun x=>by
          have h1:=minor_abs T n (by omega) (fun i c hi hc=>(good_at HGT.out hi hc).2) (s-2 ^ m) (by omega) x
          have h2:=(bd_le k (by omega)).2 (by omega)
          rw[hqe.2]at h1
          omega
         have hnp1:np<=1000000000000000:=by
          have h1:=(szd_le (k+1) (by omega)).1
          have h2:(progE s m).length*(4*szd k)<=(k+1)*(4*szd k):=Nat.mul_le_mul_right _ HPL.out
          have h3:szd (k+1)=(k+1)*(4*szd k):=rfl
          have h4:=hnp.out
          omega
         have hnq1:szd k<=10000000000000:=(szd_le k (by omega)).2 (by omega)
         have hGD:=good_at HGT.out hkn hml
         have HGD:Hid (mayB ((T.getD k []).getD m [])=true/\sizeL ((T.getD k []).getD m [])<=4):=hGD
         obtain⟨bq,hxq,hBq,hCq,Dq,hoq,hcq,hkq⟩:=hMin.out (s - 2 ^ m) (by omega)
         rw[hqe.2]at hoq hkq
         have HCQ:Hid (∀ y,coefOf Dq y=minorF T (s-2 ^ m) y):=hcq
         have HKQ:Hid (KeysIn Dq (1000*(k:Int))):=hkq
         generalize hq:s-2 ^ m=q at hnot hql HSN HBQ hxq HCQ
         have hqN:q<N:=by omega
         have e0:W2.cell? ⟨w.heap.size,q,none⟩=some (.map (some bq)):=by rw[hrow.cellAt q (by omega)];exact hxq
         have hlow2:w.heap.size<W2.heap.size:=(hrow.lt w.heap.size rfl).2
         have hbpl:=hown.lt
         generalize (T.getD k []).getD m []=l at HQ HSN HGD
         have HE0:Hid (W2.cell? ⟨w.heap.size,q,none⟩=some (.map (some bq))):=e0
         have HOQ:Hid (W2.ownsMap Tryz.prog 3 (plainElem Tryz.prog 3) bq (szd k) Dq):=hoq
         have HOP:Hid (W2.ownsMap Tryz.prog 3 (plainElem Tryz.prog 3) w3.heap.size np D):=hown
         have HRW:Hid (W2.ownsRow w.heap.size 72 1 (.slice (some ⟨w.heap.size,0,none⟩) N N) N xs):=hrow
         have HBL:Hid (Below w.heap.size w W2):=hb
         clear e0 hoq hown hrow hb hxq hcq hkq hq hqe hql hGD hcw hs2
         obtain⟨c,hc⟩:∃ c,onesTo (s >>> m) 10=c:=⟨_,rfl⟩
         have HCC:Hid (onesTo (s >>> m) 10=c):=hc
         rw[hc]at HSG
         clear hc
         go_wp2_with (go_at_call 69;refine(ones_any (s >>> m) _ HX.out).mono ?_;rw[HCC.out];rintro r w4 ⟨rfl,hb4⟩;refine Hid.out ?_)
         refine Lib.hid ?_
         have hsz4:=hb4.size
         have HP4:Hid (Poly w4 w4.heap.size pv l):=HQ.out.up hb4
         have HB4:Hid (Below W2.heap.size W2 w4):=hb4
         clear hb4 c2 hand hshr
         by_cases hc2:c%2=0
         · rw[if_pos hc2]at HSG
           have hd:((c:Int)%2==0)=true:=by rw[beq_iff_eq];omega
           have HG1:Hid (mayB l=true):=HGD.out.1
           have e4:w4.cell? ⟨w.heap.size,q,none⟩=some (.map (some bq)):=bcell HB4.out hlow2 HE0.out
           have hl4:w.heap.size<w4.heap.size:=by omega
           go_wp2_with (go_at_call 70;refine(addp_poly (-1) (Or.inr rfl) w3.heap.size np bq (szd k) D Dq pv l _ (HOP.out.kept (grown_below HB4.out none) (by simp)) (HOQ.out.kept (grown_below HB4.out none) (by simp)) (by omega) HG1.out HGD.out.2 HP4.out hnp1 hnq1 (1000*(k:Int)) (1000*((k:Int)+1)) (by omega) (by omega) (by omega) hKD.out HKQ.out HBP.out (fun x=>by rw[HCQ.out];exact HBQ.out x)).mono ?_;rintro r w6 ⟨D6,rfl,hown6,hD6,hK6,hg6⟩)
           go_roundw
           case rel=>
            have hgX:W2.grownBy w6 (some w3.heap.size):=grown_trans (grown_below HB4.out _) hg6
            refine⟨m+1,_,D6,by omega,by go_num,HRW.out.kept hgX (Or.inr (by simp[Value.ownBlock];omega)),hMin.out.kept hgX (fun b h1 h2 e=>by have:=Option.some.inj e;omega),hown6,?_,fun y=>?_,hK6,HBL.out.grown hgX (by omega) (fun j hj=>by cases hj;omega)⟩
            · show np+4*szd k<=_
              rw[HLN.out,Nat.add_mul]
              have:=hnp.out
              omega
            · rw[HSN.out,HSG.out,hD6,hD.out,show coefOf Dq=minorF T q from funext HCQ.out]
           case measure=>simp only[intOf];omega
         · rw[if_neg hc2]at HSG
           have hd:((c:Int)%2==0)=false:=by rw[beq_eq_false_iff_ne];omega
           have HG1:Hid (mayB l=true):=HGD.out.1
           have e4:w4.cell? ⟨w.heap.size,q,none⟩=some (.map (some bq)):=bcell HB4.out hlow2 HE0.out
           have hl4:w.heap.size<w4.heap.size:=by omega
           go_wp2_with (go_at_call 70;refine(addp_poly 1 (Or.inl rfl) w3.heap.size np bq (szd k) D Dq pv l _ (HOP.out.kept (grown_below HB4.out none) (by simp)) (HOQ.out.kept (grown_below HB4.out none) (by simp)) (by omega) HG1.out HGD.out.2 HP4.out hnp1 hnq1 (1000*(k:Int)) (1000*((k:Int)+1)) (by omega) (by omega) (by omega) hKD.out HKQ.out HBP.out (fun x=>by rw[HCQ.out];exact HBQ.out x)).mono ?_;rintro r w6 ⟨D6,rfl,hown6,hD6,hK6,hg6⟩)
           go_roundw
           case rel=>
            have hgX:W2.grownBy w6 (some w3.heap.size):=grown_trans (grown_below HB4.out _) hg6
            refine⟨m+1,_,D6,by omega,by go_num,HRW.out.kept hgX (Or.inr (by simp[Value.ownBlock];omega)),hMin.out.kept hgX (fun b h1 h2 e=>by have:=Option.some.inj e;omega),hown6,?_,fun y=>?_,hK6,HBL.out.grown hgX (by omega) (fun j hj=>by cases hj;omega)⟩
            · show np+4*szd k<=_
              rw[HLN.out,Nat.add_mul]
              have:=hnp.out
              omega
            · rw[HSN.out,HSG.out,hD6,hD.out,show coefOf Dq=minorF T q from funext HCQ.out]
           case measure=>simp only[intOf];omega
       · have hand:=bit_and s (by omega) m (by omega)
         have hz:(s >>> m)%2=0:=by omega
         rw[hz]at hand
         have HSK:Hid (progE s (m+1)=progE s m):=sum_skip s m hbit
         clear hbit hz
         go_wp2
         go_roundw
         case rel=>exact⟨m+1,np,D,by omega,by go_num,hrow,hMin,hown,by rw[HSK.out];exact hnp,by rw[HSK.out];exact hD,hKD,hb⟩
         case measure=>simp only[intOf];omega
     · obtain rfl:m=n:=by omega
       have f0:=hrow.frozenAt s
       obtain⟨u0,hu0⟩:∃ u,xs[s]?=some u:=⟨xs[s]'(by omega),List.getElem?_eq_getElem (by omega)⟩
       have d0:W2.cell? ⟨w.heap.size,s,none⟩=some u0:=by rw[hrow.cellAt s (by omega)];exact hu0
       have hlow2:w.heap.size<W2.heap.size:=(hrow.lt w.heap.size rfl).2
       have hs2:s<2 ^ m:=by rw[<-HNe.out];exact hlt
       have HST:Hid ((W2.setCell ⟨w.heap.size,s,none⟩ (.map (some w3.heap.size))).ownsRow w.heap.size 72 1 (.slice (some ⟨w.heap.size,0,none⟩) N N) N (xs.set s (.map (some w3.heap.size)))/\W2.grownBy (W2.setCell ⟨w.heap.size,s,none⟩ (.map (some w3.heap.size))) (some w.heap.size)):=hrow.stored s _
       have hbpl:=hown.lt
       have HOP:Hid (W2.ownsMap Tryz.prog 3 (plainElem Tryz.prog 3) w3.heap.size np D):=hown
       have HBL:Hid (Below w.heap.size w W2):=hb
       have HMI:Hid (Minors W2 w.heap.size w3.heap.size T xs s):=hMin
       clear hown hb hrow hu0 hMin
       go_wp2
       go_roundw
       case rel=>
        obtain⟨hst,hgs⟩:=HST.out
        refine⟨s+1,_,by omega,by omega,by go_num,by simpa using hxl,hst,?_,HBL.out.grown hgs (by omega) (fun j hj=>by cases hj;omega)⟩
        intro t ht
        by_cases hts:t=s
        · subst hts
          refine⟨w3.heap.size,by rw[List.getElem?_set_self (by omega)],by omega,Nat.lt_of_lt_of_le hbpl hgs.size,D,?_,fun y=>?_,?_⟩
          · refine(HOP.out.kept hgs (fun e=>by have:=Option.some.inj e;omega)).mono ?_
            rw[HK.out]
            have h1:=prog_len t (by omega) m (by omega)
            rw[HK.out]at h1
            exact Nat.le_trans hnp.out (Nat.mul_le_mul_right _ h1)
          · rw[hD.out,minor_prog T m t k (by omega) hs2 HK.out]
          · rw[HK.out]
            exact hKD.out
        · obtain⟨b',h1,h2,h3,D',h4,h5,h6⟩:=HMI.out t (by omega)
          exact⟨b',by rw[List.getElem?_set_ne (by omega)];exact h1,h2,by have:=hgs.size;omega,D',h4.kept hgs (fun e=>by have:=Option.some.inj e;omega),h5,h6⟩
       case measure=>simp only[intOf];omega
  · obtain rfl:s=N:=by omega
    obtain⟨b',h1,h2,h3,D',h4,h5,h6⟩:=hMin.out (s - 1) (by omega)
    have d0:W1.cell? ⟨w.heap.size,s-1,none⟩=some (.map (some b')):=by rw[hrow.cellAt (s-1) (by omega)];exact h1
    have hlow2:w.heap.size<W1.heap.size:=(hrow.lt w.heap.size rfl).2
    have HO:Hid (W1.ownsMap Tryz.prog 3 (plainElem Tryz.prog 3) b' (szd (onesTo (s-1) 10)) D'):=h4
    have H5:Hid (∀ y,coefOf D' y=minorF T (s-1) y):=h5
    have H6:Hid (KeysIn D' (1000*(onesTo (s-1) 10:Int))):=h6
    clear h1 h4 h5 h6 hrow hMin
    have hix:(s:Int)-1=((s-1:Nat):Int):=by omega
    go_wp2
    go_ret
    have ho:=ones_full n (by omega)
    have hmd:=minor_det T (by rw[HGT.out.1];omega)
    rw[HGT.out.1]at hmd
    have hO:=HO.out
    have h5:=H5.out
    have h6:=H6.out
    rw[HNe.out,ho]at hO h6
    rw[HNe.out,hmd]at h5
    exact⟨b',D',rfl,by omega,hO,h5,h6,hb⟩
end Go.Proofs.YtmnejkaihjpejaaGreatDoor.Poly
/- The walk of poly.Det. -/
namespace Go.Proofs.YtmnejkaihjpejaaGreatDoor.Poly
open Go.RowKit Go.Maps
set_option maxHeartbeats 1000000
set_option maxRecDepth 100000
theorem coll_len {D:DataW Unit} {left:Lit->Bool} {acc:List (Int×Int)} (h:Coll D left acc) (N:Nat) (hK:KeysIn D (N:Int)):acc.length<=2*N+1:=by
 have := few_ints N (acc.map Prod.fst) (by
  rw[List.pairwise_map]
  exact h.once) (fun x hx=>by
  simp only[List.mem_map]at hx
  obtain⟨t,ht,rfl⟩:=hx
  have h1:=(h.mem t.1 t.2).1 ht
  refine hK t.1 ?_
  cases hh:Maps.has D (.int .i64 t.1) with
  |true=>rfl
  |false=>rw[coefOf_none hh]at h1;exact absurd h1.2.1.symm h1.2.2)
 simpa using this
theorem terms34k (b n : Nat) (D : DataW Unit) (w : World) (hown : w.ownsMap Tryz.prog 3 (plainElem Tryz.prog 3) b n D) (hn : ∀ left acc, Coll D left acc → acc.length ≤ 1000000) :
    Calls Tryz.prog 33 #[.map (some b)] w fun e w'=>∃ v l,e=.returned v/\w'.ownsRow w.heap.size 63 2 v l.length (flat l)/\Canon l (coefOf D)/\Below w.heap.size w w':=by
 obtain⟨i0,hi,hz0,hz1,hz2⟩:=info_parts infoTerm
 have hbl:=hown.lt
 have HL:Hid (∀ left acc,Coll D left acc->acc.length<=1000000):=hn
 clear hn
 go_enter Tryz.func33,Tryz.ntmps33
 go_wp2_with (first|(at_range;refine wpList_range_own _ rfl _ 72 rfl 3 3 law3 Tryz.underlying72 _ b n _ rfl hown ?_;intro w0 hrg0 hg0 hs0)|go_in)
 go_frame
 go_loopw [3] (fun v wr => ∃ (left : Lit → Bool) (cnt : Nat) (acc : List (Int × Int)), wr.ranges Tryz.prog 3 (plainElem Tryz.prog 3) b w.heap.size n D left cnt ∧
     wr.ownsRow w.heap.size 63 2 v acc.length (flat acc)/\Hid (Coll D left acc)/\Below w.heap.size w wr)
  (fun _ wr=>wr.rangeLeft b w.heap.size)
 case atStart=>
  exact⟨_,_,[],hrg0,World.ownsRow_nil _ _ _ _,coll_start D,(Below.refl _ _).grown hg0 (Nat.le_refl _) (fun j hj=>by cases hj)⟩
 case round=>
  obtain⟨left,cnt,acc,hrg,hrow,hC,hnx⟩:=hrel
  have hal:=HL.out _ _ hC.out
  go_wp2_with (first
   |(at_next;refine wpList_next_ranges_ii _ rfl _ rfl 3 3 .i64 .i64 law3 Tryz.underlying3 Tryz.underlying3 b w.heap.size n _ _ _ rfl hrg ?_ ?_)
   |go_in)
  · intro hc0 hl0
    have hc:=sort_list w.heap.size _ acc _ (by omega) hrow
    go_wp2_with (go_at_call 56;refine hc.mono ?_;rintro e w' ⟨rfl,l,hp,hs,hrow2,hg2⟩)
    go_ret
    refine⟨_,l,rfl,hrow2,coll_end hC.out hl0 hp hs,hnx.grown hg2 hnx.size (fun k hk=>(hrow.lt k hk).1)⟩
  · intro x c w1 cnt1 hwx hwc hlx hat hrg1 hlt hg1 hs1 hen
    have hrow1:=hrow.kept hg1 (Or.inr (row_ne_iter hrow hrg).symm)
    have hnx1:Below w.heap.size w w1:=hnx.grown hg1 hnx.size (fun j hj=>by cases hj;exact Nat.le_refl _)
    have Hat:Hid _:=hat
    clear hs1 hat
    by_cases hc:c=0
    · subst hc
      go_wp2
      go_roundw
      case rel=>exact⟨_,cnt1,acc,hrg1,hrow1,coll_zero hC.out Hat.out,hnx1⟩
      case measure=>rw[hrg1.left_eq,hrg.left_eq];exact hlt
    · have hcb:(c != 0)=true:=by rw[bne_iff_ne];exact hc
      have HC0:Hid (c≠0):=hc
      have hsz1:=hnx1.size
      clear hc
      go_wp2_with (first
       |(at_builtin;refine wpList_append_own _ rfl _ _ 36 rfl w.heap.size 63 i0 (.agg #[.int .i64 0,.int .i64 0]) 2 16 Tryz.underlying36 hi hz0 hz1 hz2 rfl (by decide) _ _ _ rfl (hrow1.alloc _) ⟨w1.heap.size,0,none⟩ 1 1 [.int .i64 x,.int .i64 c] rfl rfl (new_cells _ _ _) (pair_one _ _) (by unfold maxLen;omega) (by omega) (by simp;omega) ?_;intro v' w3 hown' hg3 _;go_frame)
       |go_in)
      have hrg3:=(hrg1.alloc _).kept hg3 (row_ne_low hrow1 hbl) (row_ne_iter hrow1 hrg1)
      go_roundw
      case rel=>
       refine⟨_,cnt1,acc++[(x,c)],hrg3,?_,coll_more hC.out hlx HC0.out Hat.out,(hnx1.alloc hsz1 _).grown hg3 (by simp;omega) (fun j hj=>(hrow1.lt j hj).1)⟩
       rw[flat_append,List.length_append]
       exact hown'
      case measure=>rw[hrg3.left_eq,hrg.left_eq];exact hlt
end Go.Proofs.YtmnejkaihjpejaaGreatDoor.Poly
