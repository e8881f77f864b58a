/- The walk of ref.slideOf. Made by genme13.py. -/
import Derived.Test.YtagaajlbkfkaiaaME12
namespace Go.Proofs.Ytagaajlbkfkaiaa
open Go.RowKit
set_option maxHeartbeats 8000000
set_option maxRecDepth 100000
theorem slideOf_no1a (a:Option Addr) (cap:Nat) (C:List Cr) (loops:Int) (x:Int) (w:World) (hm:mayD C loops=true) (hD:CrsW w w.heap.size (.slice a C.length cap) C) (hx:x<0):
    Calls Try.prog 39 #[.agg #[.slice a C.length cap, .int .i64 loops], .int .i64 x] w fun e w' => e = .returned (.tuple #[.agg #[.slice none 0 0, .int .i64 0], .int .i64 3]) ∧ Below w.heap.size w w' := by
 have hl16:C.length<=16:=may_len hm
 obtain⟨V,hV⟩:∃ V,(w.alloc (.cells #[.slice a C.length cap,.int .i64 loops] 24)).alloc (.cells #[.slice none 0 0,.int .i64 0] 24)=V:=⟨_,rfl⟩
 have HB:Hid (Below w.heap.size w V):=(by rw[<-hV];exact below2 _ _ _:Below w.heap.size w V)
 have k0:V.heap[w.heap.size]?=some (.cells #[.slice a C.length cap,.int .i64 loops] 24 (0,0)):=by rw[<-hV];exact alloc_old (alloc_at rfl)
 have k2:V.heap[w.heap.size+1]?=some (.cells #[.slice none 0 0,.int .i64 0] 24 (0,0)):=by rw[<-hV];exact alloc_at (by simp)
 have hs:w.heap.size+2<=V.heap.size:=by rw[<-hV];simp
 have HV:=hid_of hV
 clear hV
 have HK0:=hid_of k0
 have HK2:=hid_of k2
 have b0:V.cell? ⟨w.heap.size,0,none⟩=some (.slice a C.length cap):=block_cell k0 rfl
 have b1:V.cell? ⟨w.heap.size,1,none⟩=some (.int .i64 loops):=block_cell k0 rfl
 have HFA:Hid (Calls Try.prog 57 #[.agg #[.slice a C.length cap,.int .i64 loops]] V fun e w'=>∃ av cv,e=.returned (.slice av (facesM C).length cv)/\RingsR w' (.slice av (facesM C).length cv) C (facesM C)/\Below V.heap.size V w'):=(facesOf_any a cap C loops V hm ((hD.up HB.out).crs (by unfold maxLen;omega))).mono fun e w' hh=>by
  obtain⟨v,h1,h2,h3⟩:=hh
  have h4:=rings_read hm h2
  obtain⟨av,cv,rfl,-⟩:=id h4
  exact⟨av,cv,h1,h4,h3⟩
 have hfl:(facesM C).length<=64:=by have h1:=(facesM_facts hm).1;omega
 obtain⟨L,hL⟩:∃ L,facesM C=L:=⟨_,rfl⟩
 rw[hL]at HFA hfl
 obtain⟨nf,hnf⟩:∃ n,L.length=n:=⟨_,rfl⟩
 have HNF:=hid_of hnf
 rw[hnf]at HFA hfl
 clear hm hD hL hnf k0 k2
 have d0:decide (x<0)=true:=decide_eq_true (by omega)
 go_enter Try.func39,Try.ntmps39
 go_upto_region 1 with(fail)
 rw[HV.out]
 go_upto_region 2 with (go_at_call 57; refine HFA.out.mono ?_; rintro e9 w6 ⟨av, cv, rfl, hr6, hb6⟩
                        have HR6:=hid_of hr6
                        have HB6:=hid_of hb6
                        have hs6:=hb6.size
                        clear hr6 hb6 b0 b1)
 have q2:=(HB6.out.block _ (by omega)).trans HK2.out
 have r0:w6.cell? ⟨w.heap.size+1,0,none⟩=some (.slice none 0 0):=block_cell q2 rfl
 have r1:w6.cell? ⟨w.heap.size+1,1,none⟩=some (.int .i64 0):=block_cell q2 rfl
 have f0:w6.frozen? ⟨w.heap.size+1,0,none⟩=false:=block_frozen q2
 have f1:w6.frozen? ⟨w.heap.size+1,1,none⟩=false:=block_frozen q2
 have lz:w.heap.size+1<w6.heap.size:=by omega
 have HQ2:=hid_of q2
 have HW6:Hid (Below w.heap.size w w6):=HB.out.trans (HB6.out.mono (by omega))
 clear q2
 go_wp2
 exact bodyPost_ret (res_slide (set_block (set_block HQ2.out)) rfl rfl) rfl ⟨rfl,HW6.out.grown (st2_grown _ _ _ _ _) HW6.out.size (fun q hq=>by have:=Option.some.inj hq;omega)⟩
theorem slideOf_no1b (a:Option Addr) (cap:Nat) (C:List Cr) (loops:Int) (x:Int) (w:World) (hm:mayD C loops=true) (hD:CrsW w w.heap.size (.slice a C.length cap) C) (hx:0<=x) (hx2:((facesM C).length:Int)<=x):
    Calls Try.prog 39 #[.agg #[.slice a C.length cap, .int .i64 loops], .int .i64 x] w fun e w' => e = .returned (.tuple #[.agg #[.slice none 0 0, .int .i64 0], .int .i64 3]) ∧ Below w.heap.size w w' := by
 have hl16:C.length<=16:=may_len hm
 obtain⟨V,hV⟩:∃ V,(w.alloc (.cells #[.slice a C.length cap,.int .i64 loops] 24)).alloc (.cells #[.slice none 0 0,.int .i64 0] 24)=V:=⟨_,rfl⟩
 have HB:Hid (Below w.heap.size w V):=(by rw[<-hV];exact below2 _ _ _:Below w.heap.size w V)
 have k0:V.heap[w.heap.size]?=some (.cells #[.slice a C.length cap,.int .i64 loops] 24 (0,0)):=by rw[<-hV];exact alloc_old (alloc_at rfl)
 have k2:V.heap[w.heap.size+1]?=some (.cells #[.slice none 0 0,.int .i64 0] 24 (0,0)):=by rw[<-hV];exact alloc_at (by simp)
 have hs:w.heap.size+2<=V.heap.size:=by rw[<-hV];simp
 have HV:=hid_of hV
 clear hV
 have HK0:=hid_of k0
 have HK2:=hid_of k2
 have b0:V.cell? ⟨w.heap.size,0,none⟩=some (.slice a C.length cap):=block_cell k0 rfl
 have b1:V.cell? ⟨w.heap.size,1,none⟩=some (.int .i64 loops):=block_cell k0 rfl
 have HFA:Hid (Calls Try.prog 57 #[.agg #[.slice a C.length cap,.int .i64 loops]] V fun e w'=>∃ av cv,e=.returned (.slice av (facesM C).length cv)/\RingsR w' (.slice av (facesM C).length cv) C (facesM C)/\Below V.heap.size V w'):=(facesOf_any a cap C loops V hm ((hD.up HB.out).crs (by unfold maxLen;omega))).mono fun e w' hh=>by
  obtain⟨v,h1,h2,h3⟩:=hh
  have h4:=rings_read hm h2
  obtain⟨av,cv,rfl,-⟩:=id h4
  exact⟨av,cv,h1,h4,h3⟩
 have hfl:(facesM C).length<=64:=by have h1:=(facesM_facts hm).1;omega
 obtain⟨L,hL⟩:∃ L,facesM C=L:=⟨_,rfl⟩
 rw[hL]at HFA hfl hx2
 obtain⟨nf,hnf⟩:∃ n,L.length=n:=⟨_,rfl⟩
 have HNF:=hid_of hnf
 rw[hnf]at HFA hfl hx2
 clear hm hD hL hnf k0 k2
 have d0:decide (x<0)=false:=decide_eq_false (by omega)
 have d1:decide ((nf:Int)<=x)=true:=decide_eq_true (by omega)
 go_enter Try.func39,Try.ntmps39
 go_upto_region 1 with(fail)
 rw[HV.out]
 go_upto_region 2 with (go_at_call 57; refine HFA.out.mono ?_; rintro e9 w6 ⟨av, cv, rfl, hr6, hb6⟩
                        have HR6:=hid_of hr6
                        have HB6:=hid_of hb6
                        have hs6:=hb6.size
                        clear hr6 hb6 b0 b1)
 have q2:=(HB6.out.block _ (by omega)).trans HK2.out
 have r0:w6.cell? ⟨w.heap.size+1,0,none⟩=some (.slice none 0 0):=block_cell q2 rfl
 have r1:w6.cell? ⟨w.heap.size+1,1,none⟩=some (.int .i64 0):=block_cell q2 rfl
 have f0:w6.frozen? ⟨w.heap.size+1,0,none⟩=false:=block_frozen q2
 have f1:w6.frozen? ⟨w.heap.size+1,1,none⟩=false:=block_frozen q2
 have lz:w.heap.size+1<w6.heap.size:=by omega
 have HQ2:=hid_of q2
 have HW6:Hid (Below w.heap.size w w6):=HB.out.trans (HB6.out.mono (by omega))
 clear q2
 go_wp2
 exact bodyPost_ret (res_slide (set_block (set_block HQ2.out)) rfl rfl) rfl ⟨rfl,HW6.out.grown (st2_grown _ _ _ _ _) HW6.out.size (fun q hq=>by have:=Option.some.inj hq;omega)⟩
theorem slideOf_no2 (a:Option Addr) (cap:Nat) (C:List Cr) (loops:Int) (x:Nat) (w:World) (hm:mayD C loops=true) (hD:CrsW w w.heap.size (.slice a C.length cap) C) (l:List Nat) (hx:x<(facesM C).length) (hl:(facesM C).getD x []=l) (h3:¬ l.length=3):
    Calls Try.prog 39 #[.agg #[.slice a C.length cap, .int .i64 loops], .int .i64 (x : Nat)] w fun e w' => e = .returned (.tuple #[.agg #[.slice none 0 0, .int .i64 0], .int .i64 8]) ∧ Below w.heap.size w w' := by
 have hl16:C.length<=16:=may_len hm
 obtain⟨V,hV⟩:∃ V,(w.alloc (.cells #[.slice a C.length cap,.int .i64 loops] 24)).alloc (.cells #[.slice none 0 0,.int .i64 0] 24)=V:=⟨_,rfl⟩
 have HB:Hid (Below w.heap.size w V):=(by rw[<-hV];exact below2 _ _ _:Below w.heap.size w V)
 have k0:V.heap[w.heap.size]?=some (.cells #[.slice a C.length cap,.int .i64 loops] 24 (0,0)):=by rw[<-hV];exact alloc_old (alloc_at rfl)
 have k2:V.heap[w.heap.size+1]?=some (.cells #[.slice none 0 0,.int .i64 0] 24 (0,0)):=by rw[<-hV];exact alloc_at (by simp)
 have hs:w.heap.size+2<=V.heap.size:=by rw[<-hV];simp
 have HV:=hid_of hV
 clear hV
 have HK0:=hid_of k0
 have HK2:=hid_of k2
 have b0:V.cell? ⟨w.heap.size,0,none⟩=some (.slice a C.length cap):=block_cell k0 rfl
 have b1:V.cell? ⟨w.heap.size,1,none⟩=some (.int .i64 loops):=block_cell k0 rfl
 have HFA:Hid (Calls Try.prog 57 #[.agg #[.slice a C.length cap,.int .i64 loops]] V fun e w'=>∃ av cv,e=.returned (.slice av (facesM C).length cv)/\RingsR w' (.slice av (facesM C).length cv) C (facesM C)/\Below V.heap.size V w'):=(facesOf_any a cap C loops V hm ((hD.up HB.out).crs (by unfold maxLen;omega))).mono fun e w' hh=>by
  obtain⟨v,h1,h2,h3⟩:=hh
  have h4:=rings_read hm h2
  obtain⟨av,cv,rfl,-⟩:=id h4
  exact⟨av,cv,h1,h4,h3⟩
 have hfl:(facesM C).length<=64:=by have h1:=(facesM_facts hm).1;omega
 have HLL:=hid_of hl
 have hlen:l.length<=1000:=by
  have h1:=((facesM_facts hm).2 x hx).2.1
  rw[hl]at h1
  omega
 obtain⟨L,hL⟩:∃ L,facesM C=L:=⟨_,rfl⟩
 rw[hL]at HFA hfl HLL hx
 obtain⟨nf,hnf⟩:∃ n,L.length=n:=⟨_,rfl⟩
 have HNF:=hid_of hnf
 rw[hnf]at HFA hfl hx
 clear hm hD hL hnf k0 k2 hl
 have d0:decide (((x:Nat):Int)<0)=false:=decide_eq_false (by omega)
 have d1:decide ((nf:Int)<=((x:Nat):Int))=false:=decide_eq_false (by omega)
 have d4:decide (nf<=x)=false:=decide_eq_false (by omega)
 have d2:(0:Int)<=((x:Nat):Int):=by omega
 have d3:((x:Nat):Int)<(nf:Int):=by omega
 go_enter Try.func39,Try.ntmps39
 go_upto_region 1 with(fail)
 rw[HV.out]
 go_upto_region 2 with (go_at_call 57; refine HFA.out.mono ?_; rintro e9 w6 ⟨av, cv, rfl, hr6, hb6⟩
                        have HR6:=hid_of hr6
                        have HB6:=hid_of hb6
                        have hs6:=hb6.size
                        clear hr6 hb6 b0 b1)
 have q2:=(HB6.out.block _ (by omega)).trans HK2.out
 have r0:w6.cell? ⟨w.heap.size+1,0,none⟩=some (.slice none 0 0):=block_cell q2 rfl
 have r1:w6.cell? ⟨w.heap.size+1,1,none⟩=some (.int .i64 0):=block_cell q2 rfl
 have f0:w6.frozen? ⟨w.heap.size+1,0,none⟩=false:=block_frozen q2
 have f1:w6.frozen? ⟨w.heap.size+1,1,none⟩=false:=block_frozen q2
 have lz:w.heap.size+1<w6.heap.size:=by omega
 have HQ2:=hid_of q2
 have HW6:Hid (Below w.heap.size w w6):=HB.out.trans (HB6.out.mono (by omega))
 clear q2
 obtain⟨a0,c0,e0,f0'⟩:=HR6.out
 rw[HNF.out]at e0
 injection e0 with e1 e2 e3
 obtain⟨bf,of,ea,hbfw,hc⟩:=f0' (by rw[HNF.out];omega)
 obtain⟨g,c,h1,h2⟩:=hc x (by rw[HNF.out];omega)
 have ea2:av=some ⟨bf,of,none⟩:=e1.trans ea
 subst ea2
 rw[HLL.out]at h1 h2
 have HRI:=hid_of h2
 clear e1 e2 e3 ea hc h2 f0'
 obtain⟨nl,hnl⟩:∃ n,l.length=n:=⟨_,rfl⟩
 rw[hnl]at h1 hlen h3
 clear hnl
 have d5:((nl:Int) != 3)=true:=bne_iff_ne.2 (by omega)
 clear h3
 go_wp2
 exact bodyPost_ret (res_slide (set_block (set_block HQ2.out)) rfl rfl) rfl ⟨rfl,HW6.out.grown (st2_grown _ _ _ _ _) HW6.out.size (fun q hq=>by have:=Option.some.inj hq;omega)⟩
theorem slideOf_no3 (a:Option Addr) (cap:Nat) (C:List Cr) (loops:Int) (x:Nat) (w:World) (hm:mayD C loops=true) (hD:CrsW w w.heap.size (.slice a C.length cap) C) (l:List Nat) (hx:x<(facesM C).length) (hl:(facesM C).getD x []=l) (h3:l.length=3) (ht:slR C l=false):
    Calls Try.prog 39 #[.agg #[.slice a C.length cap, .int .i64 loops], .int .i64 (x : Nat)] w fun e w' => e = .returned (.tuple #[.agg #[.slice none 0 0, .int .i64 0], .int .i64 8]) ∧ Below w.heap.size w w' := by
 have hl16:C.length<=16:=may_len hm
 obtain⟨V,hV⟩:∃ V,(w.alloc (.cells #[.slice a C.length cap,.int .i64 loops] 24)).alloc (.cells #[.slice none 0 0,.int .i64 0] 24)=V:=⟨_,rfl⟩
 have HB:Hid (Below w.heap.size w V):=(by rw[<-hV];exact below2 _ _ _:Below w.heap.size w V)
 have k0:V.heap[w.heap.size]?=some (.cells #[.slice a C.length cap,.int .i64 loops] 24 (0,0)):=by rw[<-hV];exact alloc_old (alloc_at rfl)
 have k2:V.heap[w.heap.size+1]?=some (.cells #[.slice none 0 0,.int .i64 0] 24 (0,0)):=by rw[<-hV];exact alloc_at (by simp)
 have hs:w.heap.size+2<=V.heap.size:=by rw[<-hV];simp
 have HV:=hid_of hV
 clear hV
 have HK0:=hid_of k0
 have HK2:=hid_of k2
 have b0:V.cell? ⟨w.heap.size,0,none⟩=some (.slice a C.length cap):=block_cell k0 rfl
 have b1:V.cell? ⟨w.heap.size,1,none⟩=some (.int .i64 loops):=block_cell k0 rfl
 have HFA:Hid (Calls Try.prog 57 #[.agg #[.slice a C.length cap,.int .i64 loops]] V fun e w'=>∃ av cv,e=.returned (.slice av (facesM C).length cv)/\RingsR w' (.slice av (facesM C).length cv) C (facesM C)/\Below V.heap.size V w'):=(facesOf_any a cap C loops V hm ((hD.up HB.out).crs (by unfold maxLen;omega))).mono fun e w' hh=>by
  obtain⟨v,h1,h2,h3⟩:=hh
  have h4:=rings_read hm h2
  obtain⟨av,cv,rfl,-⟩:=id h4
  exact⟨av,cv,h1,h4,h3⟩
 have hfl:(facesM C).length<=64:=by have h1:=(facesM_facts hm).1;omega
 have HLL:=hid_of hl
 have hlen:l.length<=1000:=by
  have h1:=((facesM_facts hm).2 x hx).2.1
  rw[hl]at h1
  omega
 have hCp:0<C.length:=by
  have h1:=(facesM_facts hm).1
  omega
 obtain⟨b,off,ea,hbw,hCr⟩:∃ b off,a=some ⟨b,off,none⟩/\b<w.heap.size/\CrossAt w b off C:=by
  rcases hD with⟨h1,h2⟩|⟨ad,cp,h1,h2⟩|⟨b,off,cp,h1,h2,h3⟩
  · rw[h2]at hCp;simp at hCp
  · rw[h2]at hCp;simp at hCp
  · injection h1 with h4;exact⟨b,off,h4,h2,h3⟩
 subst ea
 have HM:=hid_of hm
 have HCR:=hid_of hCr
 have H3:=hid_of h3
 have HT:=hid_of ht
 obtain⟨L,hL⟩:∃ L,facesM C=L:=⟨_,rfl⟩
 rw[hL]at HFA hfl HLL hx
 obtain⟨nf,hnf⟩:∃ n,L.length=n:=⟨_,rfl⟩
 have HNF:=hid_of hnf
 rw[hnf]at HFA hfl hx
 clear hm hD hL hnf k0 k2 hl h3 ht hCr
 have d0:decide (((x:Nat):Int)<0)=false:=decide_eq_false (by omega)
 have d1:decide ((nf:Int)<=((x:Nat):Int))=false:=decide_eq_false (by omega)
 have d4:decide (nf<=x)=false:=decide_eq_false (by omega)
 have d2:(0:Int)<=((x:Nat):Int):=by omega
 have d3:((x:Nat):Int)<(nf:Int):=by omega
 go_enter Try.func39,Try.ntmps39
 go_upto_region 1 with(fail)
 rw[HV.out]
 go_upto_region 2 with (go_at_call 57; refine HFA.out.mono ?_; rintro e9 w6 ⟨av, cv, rfl, hr6, hb6⟩
                        have HR6:=hid_of hr6
                        have HB6:=hid_of hb6
                        have hs6:=hb6.size
                        clear hr6 hb6 b0 b1)
 have q2:=(HB6.out.block _ (by omega)).trans HK2.out
 have r0:w6.cell? ⟨w.heap.size+1,0,none⟩=some (.slice none 0 0):=block_cell q2 rfl
 have r1:w6.cell? ⟨w.heap.size+1,1,none⟩=some (.int .i64 0):=block_cell q2 rfl
 have f0:w6.frozen? ⟨w.heap.size+1,0,none⟩=false:=block_frozen q2
 have f1:w6.frozen? ⟨w.heap.size+1,1,none⟩=false:=block_frozen q2
 have lz:w.heap.size+1<w6.heap.size:=by omega
 have HQ2:=hid_of q2
 have HW6:Hid (Below w.heap.size w w6):=HB.out.trans (HB6.out.mono (by omega))
 clear q2
 obtain⟨a0,c0,e0,f0'⟩:=HR6.out
 rw[HNF.out]at e0
 injection e0 with e1 e2 e3
 obtain⟨bf,of,ea,hbfw,hc⟩:=f0' (by rw[HNF.out];omega)
 obtain⟨g,c,h1,h2⟩:=hc x (by rw[HNF.out];omega)
 have ea2:av=some ⟨bf,of,none⟩:=e1.trans ea
 subst ea2
 rw[HLL.out]at h1 h2
 have HRI:=hid_of h2
 clear e1 e2 e3 ea hc h2 f0'
 rw[H3.out]at h1
 go_upto_if 35 with(fail)
 go_cut [5] from 18 (fun s5 wx=>s5=.int .i64 0/\Below w6.heap.size w6 wx)
 case first=>
  go_wp2
  go_meet
  exact⟨rfl,Below.refl _ _⟩
 case rest=>
  rename World=>W9
  obtain⟨rfl,hcut⟩:=hcut
  have H9:=hid_of hcut
  clear hcut
  have HWW:Hid (Below w.heap.size w W9):=HW6.out.trans (H9.out.mono HW6.out.size)
  have HVW:Hid (Below V.heap.size V W9):=HB6.out.trans (H9.out.mono hs6)
  rename (∀ (a:Act) (w:World),Code.wp _ _ _ a w->_)=>hK9
  refine hK9 _ _ ?_
  exact slideOf7 b off cap C loops g c l w W9 _ HM.out (Nat.lt_of_lt_of_le hbw HWW.out.size) (HCR.out.on HWW.out hbw) (HRI.out.on H9.out) H3.out ((HVW.out.block _ (by omega)).trans HK0.out) ((HVW.out.block _ (by omega)).trans HK2.out) HWW.out (fun _ w' h=>⟨rfl,h⟩) (fun e=>by rw[HT.out]at e;cases e) _ _ _ _ _ _ _ _ _ _ _ _ _ _ _ _ _ _ _ _ _ _ _ _ _ _ _ _ _ _ _ _ _ _ _ _ _ _ _ _ _ _ _ _ _ _ _ _ _ _ _ _ _ _ _ _ _ _ _ _ _ _ _ _ _ _ _ _ _ _ _ _ _ _ _ _ _ _ _ _ _ _ _ _ _ _ _ _ _ _ _ _ _ _ _ _ _ _ _ _ _ _ _ _ _ _ _ _ _ _ _ _ _ _ _ _ _ _ _ _ _ _ _ _ _ _ _ _ _ _ _ _ _ _ _ _ _ _ _ _ _ _ _ _ _ _ _ _ _ _ _ _ _ _ _ _
theorem slideOf_yes (a:Option Addr) (cap:Nat) (C:List Cr) (loops:Int) (x:Nat) (w:World) (hm:mayD C loops=true) (hD:CrsW w w.heap.size (.slice a C.length cap) C) (l:List Nat) (hx:x<(facesM C).length) (hl:(facesM C).getD x []=l) (h3:l.length=3) (ht:slR C l=true):
    Calls Try.prog 39 #[.agg #[.slice a C.length cap, .int .i64 loops], .int .i64 (x : Nat)] w fun e w' => ∃ a' c', e = .returned (.tuple #[.agg #[.slice a' C.length c', .int .i64 loops], .int .i64 0]) ∧ w'.ownsRow w.heap.size 71 5 (.slice a' C.length c') C.length (crossCells (slLs C l 3)) ∧ Below w.heap.size w w' := by
 have hl16:C.length<=16:=may_len hm
 obtain⟨V,hV⟩:∃ V,(w.alloc (.cells #[.slice a C.length cap,.int .i64 loops] 24)).alloc (.cells #[.slice none 0 0,.int .i64 0] 24)=V:=⟨_,rfl⟩
 have HB:Hid (Below w.heap.size w V):=(by rw[<-hV];exact below2 _ _ _:Below w.heap.size w V)
 have k0:V.heap[w.heap.size]?=some (.cells #[.slice a C.length cap,.int .i64 loops] 24 (0,0)):=by rw[<-hV];exact alloc_old (alloc_at rfl)
 have k2:V.heap[w.heap.size+1]?=some (.cells #[.slice none 0 0,.int .i64 0] 24 (0,0)):=by rw[<-hV];exact alloc_at (by simp)
 have hs:w.heap.size+2<=V.heap.size:=by rw[<-hV];simp
 have HV:=hid_of hV
 clear hV
 have HK0:=hid_of k0
 have HK2:=hid_of k2
 have b0:V.cell? ⟨w.heap.size,0,none⟩=some (.slice a C.length cap):=block_cell k0 rfl
 have b1:V.cell? ⟨w.heap.size,1,none⟩=some (.int .i64 loops):=block_cell k0 rfl
 have HFA:Hid (Calls Try.prog 57 #[.agg #[.slice a C.length cap,.int .i64 loops]] V fun e w'=>∃ av cv,e=.returned (.slice av (facesM C).length cv)/\RingsR w' (.slice av (facesM C).length cv) C (facesM C)/\Below V.heap.size V w'):=(facesOf_any a cap C loops V hm ((hD.up HB.out).crs (by unfold maxLen;omega))).mono fun e w' hh=>by
  obtain⟨v,h1,h2,h3⟩:=hh
  have h4:=rings_read hm h2
  obtain⟨av,cv,rfl,-⟩:=id h4
  exact⟨av,cv,h1,h4,h3⟩
 have hfl:(facesM C).length<=64:=by have h1:=(facesM_facts hm).1;omega
 have HLL:=hid_of hl
 have hlen:l.length<=1000:=by
  have h1:=((facesM_facts hm).2 x hx).2.1
  rw[hl]at h1
  omega
 have hCp:0<C.length:=by
  have h1:=(facesM_facts hm).1
  omega
 obtain⟨b,off,ea,hbw,hCr⟩:∃ b off,a=some ⟨b,off,none⟩/\b<w.heap.size/\CrossAt w b off C:=by
  rcases hD with⟨h1,h2⟩|⟨ad,cp,h1,h2⟩|⟨b,off,cp,h1,h2,h3⟩
  · rw[h2]at hCp;simp at hCp
  · rw[h2]at hCp;simp at hCp
  · injection h1 with h4;exact⟨b,off,h4,h2,h3⟩
 subst ea
 have HM:=hid_of hm
 have HCR:=hid_of hCr
 have H3:=hid_of h3
 have HT:=hid_of ht
 obtain⟨L,hL⟩:∃ L,facesM C=L:=⟨_,rfl⟩
 rw[hL]at HFA hfl HLL hx
 obtain⟨nf,hnf⟩:∃ n,L.length=n:=⟨_,rfl⟩
 have HNF:=hid_of hnf
 rw[hnf]at HFA hfl hx
 clear hm hD hL hnf k0 k2 hl h3 ht hCr
 have d0:decide (((x:Nat):Int)<0)=false:=decide_eq_false (by omega)
 have d1:decide ((nf:Int)<=((x:Nat):Int))=false:=decide_eq_false (by omega)
 have d4:decide (nf<=x)=false:=decide_eq_false (by omega)
 have d2:(0:Int)<=((x:Nat):Int):=by omega
 have d3:((x:Nat):Int)<(nf:Int):=by omega
 go_enter Try.func39,Try.ntmps39
 go_upto_region 1 with(fail)
 rw[HV.out]
 go_upto_region 2 with (go_at_call 57; refine HFA.out.mono ?_; rintro e9 w6 ⟨av, cv, rfl, hr6, hb6⟩
                        have HR6:=hid_of hr6
                        have HB6:=hid_of hb6
                        have hs6:=hb6.size
                        clear hr6 hb6 b0 b1)
 have q2:=(HB6.out.block _ (by omega)).trans HK2.out
 have r0:w6.cell? ⟨w.heap.size+1,0,none⟩=some (.slice none 0 0):=block_cell q2 rfl
 have r1:w6.cell? ⟨w.heap.size+1,1,none⟩=some (.int .i64 0):=block_cell q2 rfl
 have f0:w6.frozen? ⟨w.heap.size+1,0,none⟩=false:=block_frozen q2
 have f1:w6.frozen? ⟨w.heap.size+1,1,none⟩=false:=block_frozen q2
 have lz:w.heap.size+1<w6.heap.size:=by omega
 have HQ2:=hid_of q2
 have HW6:Hid (Below w.heap.size w w6):=HB.out.trans (HB6.out.mono (by omega))
 clear q2
 obtain⟨a0,c0,e0,f0'⟩:=HR6.out
 rw[HNF.out]at e0
 injection e0 with e1 e2 e3
 obtain⟨bf,of,ea,hbfw,hc⟩:=f0' (by rw[HNF.out];omega)
 obtain⟨g,c,h1,h2⟩:=hc x (by rw[HNF.out];omega)
 have ea2:av=some ⟨bf,of,none⟩:=e1.trans ea
 subst ea2
 rw[HLL.out]at h1 h2
 have HRI:=hid_of h2
 clear e1 e2 e3 ea hc h2 f0'
 rw[H3.out]at h1
 go_upto_if 35 with(fail)
 go_cut [5] from 18 (fun s5 wx=>s5=.int .i64 0/\Below w6.heap.size w6 wx)
 case first=>
  go_wp2
  go_meet
  exact⟨rfl,Below.refl _ _⟩
 case rest=>
  rename World=>W9
  obtain⟨rfl,hcut⟩:=hcut
  have H9:=hid_of hcut
  clear hcut
  have HWW:Hid (Below w.heap.size w W9):=HW6.out.trans (H9.out.mono HW6.out.size)
  have HVW:Hid (Below V.heap.size V W9):=HB6.out.trans (H9.out.mono hs6)
  rename (∀ (a:Act) (w:World),Code.wp _ _ _ a w->_)=>hK9
  refine hK9 _ _ ?_
  exact slideOf7 b off cap C loops g c l w W9 _ HM.out (Nat.lt_of_lt_of_le hbw HWW.out.size) (HCR.out.on HWW.out hbw) (HRI.out.on H9.out) H3.out ((HVW.out.block _ (by omega)).trans HK0.out) ((HVW.out.block _ (by omega)).trans HK2.out) HWW.out (fun e=>by rw[HT.out]at e;cases e) (fun _ a' c' w' h1 h2=>⟨a',c',rfl,h1,h2⟩) _ _ _ _ _ _ _ _ _ _ _ _ _ _ _ _ _ _ _ _ _ _ _ _ _ _ _ _ _ _ _ _ _ _ _ _ _ _ _ _ _ _ _ _ _ _ _ _ _ _ _ _ _ _ _ _ _ _ _ _ _ _ _ _ _ _ _ _ _ _ _ _ _ _ _ _ _ _ _ _ _ _ _ _ _ _ _ _ _ _ _ _ _ _ _ _ _ _ _ _ _ _ _ _ _ _ _ _ _ _ _ _ _ _ _ _ _ _ _ _ _ _ _ _ _ _ _ _ _ _ _ _ _ _ _ _ _ _ _ _ _ _ _ _ _ _ _ _ _ _ _ _ _ _ _ _
end Go.Proofs.Ytagaajlbkfkaiaa
