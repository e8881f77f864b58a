/- The walk of ref.onOneFace. Made by genme9.py. -/
import Derived.Test.YtagaajlbkfkaiaaMW1P
import Derived.Test.YtagaajlbkfkaiaaMV8
import Derived.Test.YtagaajlbkfkaiaaME2
import Derived.Deep.QuietTactic
import Derived.BigQuiet
namespace Go.Proofs.Ytagaajlbkfkaiaa
open Go.RowKit
set_option maxHeartbeats 16000000
set_option maxRecDepth 100000
theorem mem_next (l:List Nat) (u k:Nat) (h:k<l.length):decide (u∈l.take (k+1))=(decide (u∈l.take k)||decide (l.getD k 0=u)):=by
 rw[List.take_add_one,List.getElem?_eq_getElem h,List.getD_eq_getElem?_getD,List.getElem?_eq_getElem h,Bool.eq_iff_iff]
 simp only[Option.toList_some,List.mem_append,List.mem_singleton,Option.getD_some,Bool.or_eq_true,decide_eq_true_eq]
 exact⟨fun h=>h.imp id Eq.symm,fun h=>h.imp id Eq.symm⟩
theorem refOnOneFace_any (b off cap:Nat) (C:List Cr) (loops:Int) (u v:Nat) (w:World) (hm:mayD C loops=true) (hu1:1<=u) (hv1:1<=v) (hbw:b<w.heap.size) (hC:CrossAt w b off C):
    Calls Try.prog 67 #[.agg #[.slice (some ⟨b,off,none⟩) C.length cap,.int .i64 loops],.agg #[.int .i64 (dA u:Nat),.bool (dB u)],.agg #[.int .i64 (dA v:Nat),.bool (dB v)]] w fun e w'=>e=.returned (.bool (ofB C u v))/\Below w.heap.size w w':=by
 obtain⟨V,hV⟩:∃ V,((w.alloc (.cells #[.slice (some ⟨b,off,none⟩) C.length cap,.int .i64 loops] 24)).alloc (.cells #[.int .i64 (dA u:Nat),.bool (dB u)] 26)).alloc (.cells #[.int .i64 (dA v:Nat),.bool (dB v)] 26)=V:=⟨_,rfl⟩
 have HBV:=hidB (show Below w.heap.size w V by rw[<-hV];exact below3 _ _ _ _)
 have HT0:Hid (V.heap[w.heap.size]?=some (.cells #[.slice (some ⟨b,off,none⟩) C.length cap,.int .i64 loops] 24 (0,0))):=(by rw[<-hV];exact alloc_old (alloc_old (alloc_at rfl)):V.heap[w.heap.size]?=_)
 have HT1:Hid (V.heap[w.heap.size+1]?=some (.cells #[.int .i64 (dA u:Nat),.bool (dB u)] 26 (0,0))):=(by rw[<-hV];exact alloc_old (alloc_at (by simp)):V.heap[w.heap.size+1]?=_)
 have HT2:Hid (V.heap[w.heap.size+1+1]?=some (.cells #[.int .i64 (dA v:Nat),.bool (dB v)] 26 (0,0))):=(by rw[<-hV];exact alloc_at (by simp):V.heap[w.heap.size+1+1]?=_)
 have hsV:w.heap.size+3<=V.heap.size:=by rw[<-hV];simp
 have HCV:Hid (∀ W,Below V.heap.size V W->CrossAt W b off C/\b<W.heap.size):=fun W hW=>by
  have h:=HBV.out.trans (hW.mono (by omega))
  exact⟨hC.on h hbw,Nat.lt_of_lt_of_le hbw h.size⟩
 have HFA:Hid (Calls Try.prog 57 #[.agg #[.slice (some ⟨b,off,none⟩) C.length cap,.int .i64 loops]] V fun e w'=>∃ av cv,e=.returned (.slice av (facesM C).length cv)/\RingsR w' (.slice av (facesM C).length cv) C (facesM C)/\Below V.heap.size V w'):=(facesOf_any (some ⟨b,off,none⟩) cap C loops V hm ⟨_,_,rfl,by have:=may_len hm;unfold maxLen;omega,fun _=>⟨b,off,rfl,(HCV.out V (Below.refl _ _)).2,(HCV.out V (Below.refl _ _)).1⟩⟩).mono fun e w' hh=>by
  obtain⟨v,h1,h2,h3⟩:=hh
  have h4:=rings_read hm h2
  obtain⟨av,cv,rfl,-⟩:=id h4
  exact⟨av,cv,h1,h4,h3⟩
 have c0:=block_cell (i:=0) HT0.out rfl
 have c1:=block_cell (i:=1) HT0.out rfl
 have hfl:(facesM C).length<=64:=by have h1:=(facesM_facts hm).1;have h2:=may_len hm;omega
 unfold ofB
 generalize facesM C=L at HFA hfl ⊢
 obtain⟨tt,htt⟩:∃ t:List Nat->Bool,t=fun l=>decide (u∈l)&&decide (v∈l):=⟨_,rfl⟩
 rw[<-htt]
 have HTT:Hid (∀ l,tt l=(decide (u∈l)&&decide (v∈l))):=fun l=>by rw[htt]
 obtain⟨m,hmL⟩:∃ m,L.length=m:=⟨_,rfl⟩
 rw[hmL]at HFA hfl
 have HML:=hid_of hmL
 have HV:=hid_of hV
 clear hV hm hC hmL htt
 go_enter Try.func67,Try.ntmps67
 go_upto_region 1 with(fail)
 rw[HV.out]
 go_wp2_with (go_at_call 57;refine HFA.out.mono ?_;rintro e9 F ⟨av,cv,rfl,hrF,hbF⟩;refine Hid.out ?_)
 refine Lib.hid ?_
 have HRF:=hid_of hrF
 have HBF:=hid_of hbF
 have hsF:=hbF.size
 clear hrF hbF c0 c1
 go_wp2
 go_loopw [8] (fun v8 wr=>∃ i:Nat,i<=m/\v8=.int .i64 (i:Nat)/\Hid ((L.take i).any tt=false)/\Hid (Below F.heap.size F wr)) (fun v8 _=>m-(intOf v8).toNat)
 case atStart=>exact⟨0,Nat.zero_le _,rfl,rfl,Below.refl _ _⟩
 case round=>
  rename World=>Z
  obtain⟨i,him,rfl,hno,hbZ⟩:=hrel
  have HBZ:=hid_of hbZ.out
  have HNO:=hid_of hno.out
  have hsZ:=hbZ.out.size
  clear hbZ hno
  by_cases hil:i<m
  · have hiI:(i:Int)<(m:Int):=by omega
    have hi0:(0:Int)<=(i:Int):=by omega
    have hiL:i<L.length:=by rw[HML.out];exact hil
    obtain⟨a0,c0,e0,f0⟩:=HRF.out.on HBZ.out
    rw[HML.out]at e0
    injection e0 with e1 e2 e3
    obtain⟨bf,of,ea,hbfw,hc⟩:=f0 (by rw[HML.out];omega)
    obtain⟨g,c,h1,h2⟩:=hc i hiL
    have ea2:av=some ⟨bf,of,none⟩:=e1.trans ea
    subst ea2
    have HX:Hid ((L.take (i+1)).any tt=((L.take i).any tt||tt (L.getD i []))):=(by rw[List.take_add_one,List.getElem?_eq_getElem hiL,List.any_append,List.getD_eq_getElem?_getD,List.getElem?_eq_getElem hiL];simp:(L.take (i+1)).any tt=_)
    have HS:Hid (tt (L.getD i [])=true->L.any tt=true):=fun q=>List.any_eq_true.2 ⟨L.getD i [],by rw[List.getD_eq_getElem?_getD,List.getElem?_eq_getElem hiL];exact List.getElem_mem hiL,q⟩
    generalize L.getD i []=l at h1 h2 HX HS
    have HRI:=hid_of h2
    obtain⟨n,hn⟩:∃ n,l.length=n:=⟨_,rfl⟩
    have hn9:=h2.2.1
    rw[hn]at h1 hn9
    have HN:=hid_of hn
    have H1:=hid_of h1
    clear e1 e2 e3 ea hc h2 f0 hn hiL h1
    have HZV:=hidB (HBF.out.trans (HBZ.out.mono hsF))
    go_wp2
    go_loopw [9,10,11] (fun v9 v10 v11 wr=>∃ (k:Nat) (A B:Bool),k<=n/\v11=.int .i64 (k:Nat)/\v9=.bool A/\v10=.bool B/\Hid (decide (u∈l.take k)=A)/\Hid (decide (v∈l.take k)=B)/\Hid (Below Z.heap.size Z wr)) (fun _ _ v11 _=>n-(intOf v11).toNat)
    case atStart=>exact⟨0,false,false,Nat.zero_le _,rfl,rfl,rfl,by simp[Hid],by simp[Hid],Below.refl _ _⟩
    case round=>
     rename World=>Y
     obtain⟨k,A,B,hkn,rfl,rfl,rfl,hA,hB,hbY⟩:=hrel
     have HA:=hid_of hA.out
     have HB:=hid_of hB.out
     have HZY:=hid_of hbY.out
     have hsY:=hbY.out.size
     clear hA hB hbY
     have HVY:=hidB (HZV.out.trans (HZY.out.mono HZV.out.size))
     have hzz:=HZV.out.size
     have h1:Y.cell? ⟨bf,of+i,none⟩=some (.slice (some ⟨g,0,none⟩) n c):=bcell HZY.out hbfw H1.out
     have lbf:bf<Y.heap.size:=by omega
     by_cases hkl:k<n
     · have hkI:(k:Int)<(n:Int):=by omega
       have hk0:(0:Int)<=(k:Int):=by omega
       have hr:=HRI.out.2.2 k (by rw[HN.out];exact hkl)
       have HMU:=hidB (show decide (u∈l.take (k+1))=(A||decide (l.getD k 0=u)) by rw[mem_next l u k (by rw[HN.out];exact hkl),HA.out])
       have HMV:=hidB (show decide (v∈l.take (k+1))=(B||decide (l.getD k 0=v)) by rw[mem_next l v k (by rw[HN.out];exact hkl),HB.out])
       obtain⟨d,hd⟩:∃ d,l.getD k 0=d:=⟨_,rfl⟩
       rw[hd]at hr HMU HMV
       obtain⟨⟨hd1,-⟩,hr0,hr1⟩:=hr
       have hg:=HRI.out.1
       have e0:Y.cell? ⟨g,k*2,none⟩=some (.int .i64 (dA d:Nat)):=bcell HZY.out hg hr0
       have e1:Y.cell? ⟨g,k*2+1,none⟩=some (.bool (dB d)):=bcell HZY.out hg hr1
       have lg:g<Y.heap.size:=by omega
       have u0:=block_cell (i:=0) ((HVY.out.block _ (by omega)).trans HT1.out) rfl
       have u1:=block_cell (i:=1) ((HVY.out.block _ (by omega)).trans HT1.out) rfl
       have v0:=block_cell (i:=0) ((HVY.out.block _ (by omega)).trans HT2.out) rfl
       have v1:=block_cell (i:=1) ((HVY.out.block _ (by omega)).trans HT2.out) rfl
       have lu:w.heap.size+1<Y.heap.size:=by omega
       have lv:w.heap.size+1+1<Y.heap.size:=by omega
       have HQU:Hid (∀ W,(Op.equalIn 10000 26 (.agg #[.int .i64 (dA d:Nat),.bool (dB d)]) (.agg #[.int .i64 (dA u:Nat),.bool (dB u)])).run Try.prog W=.ok (decide (d=u)) W):=fun W=>by rw[eqDart,d_same hd1 hu1]
       have HQV:Hid (∀ W,(Op.equalIn 10000 26 (.agg #[.int .i64 (dA d:Nat),.bool (dB d)]) (.agg #[.int .i64 (dA v:Nat),.bool (dB v)])).run Try.prog W=.ok (decide (d=v)) W):=fun W=>by rw[eqDart,d_same hd1 hv1]
       obtain⟨pu,hpu⟩:∃ p,decide (d=u)=p:=⟨_,rfl⟩
       obtain⟨pv,hpv⟩:∃ p,decide (d=v)=p:=⟨_,rfl⟩
       rw[hpu]at HQU HMU
       rw[hpv]at HQV HMV
       have qu:=HQU.out
       have qv:=HQV.out
       clear hr0 hr1 hd hpu hpv
       cases A<;>cases B
       · go_wp2
         go_quiet (fail)
         go_wp2
         go_quiet (fail)
         go_wp2
         go_roundw
         case rel=>exact⟨k+1,pu,pv,by omega,by go_num,by first|rfl|simp,by first|rfl|simp,by rw[HMU.out];simp[Hid],by rw[HMV.out];simp[Hid],below_drewN HZY.out _⟩
         case measure=>simp only[intOf];omega
       · go_wp2
         go_quiet (fail)
         go_wp2
         go_quiet (fail)
         go_wp2
         go_roundw
         case rel=>exact⟨k+1,pu,true,by omega,by go_num,by first|rfl|simp,by first|rfl|simp,by rw[HMU.out];simp[Hid],by rw[HMV.out];simp[Hid],below_drewN HZY.out _⟩
         case measure=>simp only[intOf];omega
       · go_wp2
         go_quiet (fail)
         go_wp2
         go_quiet (fail)
         go_wp2
         go_roundw
         case rel=>exact⟨k+1,true,pv,by omega,by go_num,by first|rfl|simp,by first|rfl|simp,by rw[HMU.out];simp[Hid],by rw[HMV.out];simp[Hid],below_drewN HZY.out _⟩
         case measure=>simp only[intOf];omega
       · go_wp2
         go_quiet (fail)
         go_wp2
         go_quiet (fail)
         go_wp2
         go_roundw
         case rel=>exact⟨k+1,true,true,by omega,by go_num,by first|rfl|simp,by first|rfl|simp,by rw[HMU.out];simp[Hid],by rw[HMV.out];simp[Hid],below_drewN HZY.out _⟩
         case measure=>simp only[intOf];omega
     · obtain rfl:k=n:=by omega
       have HA2:=hidB (show decide (u∈l)=A by have:=HA.out;rw[<-HN.out,List.take_length]at this;exact this)
       have HB2:=hidB (show decide (v∈l)=B by have:=HB.out;rw[<-HN.out,List.take_length]at this;exact this)
       have HFY:=hidB (HBZ.out.trans (HZY.out.mono hsZ))
       have HWY:=hidB (HBV.out.trans (HVY.out.mono (by omega)))
       have HR:=hidB (show(L.take (i+1)).any tt=(A&&B) by rw[HX.out,HNO.out,HTT.out,HA2.out,HB2.out];rfl)
       have HRS:Hid ((A&&B)=true->L.any tt=true):=fun q=>HS.out (by rw[HTT.out,HA2.out,HB2.out];exact q)
       clear HA HB HX HS
       cases A with
       |false=>
        go_wp2
        go_roundw
        case rel=>exact⟨i+1,by omega,by go_num,HR.out,HFY.out⟩
        case measure=>simp only[intOf];omega
       |true=>
        cases B with
        |false=>
         go_wp2
         go_roundw
         case rel=>exact⟨i+1,by omega,by go_num,HR.out,HFY.out⟩
         case measure=>simp only[intOf];omega
        |true=>
         have HRT:=hid_of (HRS.out rfl)
         go_wp2
         go_ret
         exact⟨ret_bool HRT.out,HWY.out⟩
  · obtain rfl:i=m:=by omega
    have HA:=hidB (show L.any tt=false by have:=HNO.out;rw[<-HML.out,List.take_length]at this;exact this)
    go_wp2
    go_ret
    exact⟨ret_bool HA.out,HBV.out.trans ((HBF.out.trans (HBZ.out.mono hsF)).mono (by omega))⟩
end Go.Proofs.Ytagaajlbkfkaiaa
