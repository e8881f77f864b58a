/- The walks of ref.heightOf, ref.curlAt and ref.fewLoops. Made by genme1.py. -/
import Derived.Test.YtagaajlbkfkaiaaTkhP
import Derived.Test.YtagaajlbkfkaiaaH4P
import Derived.Test.YtagaajlbkfkaiaaMV5
import Derived.Test.YtagaajlbkfkaiaaF1P
import Derived.Deep.RegionHeld
namespace Go.Proofs.Ytagaajlbkfkaiaa
open Go.RowKit
set_option maxHeartbeats 4000000
set_option maxRecDepth 100000
def hgt (C:List Cr) (x:Nat):Nat:=enS C x true%2+enS C x false%2
theorem endOf_is (b off cap:Nat) (C:List Cr) (loops:Int) (x:Nat) (p:Bool) (w:World) (hm:mayD C loops=true) (h1:1<=x) (h2:x<=2*C.length) (hbw:b<w.heap.size) (hC:CrossAt w b off C):
    Calls Try.prog 63 #[.agg #[.slice (some ⟨b,off,none⟩) C.length cap,.int .i64 loops],.int .i64 x,.bool (!p)] w fun e w'=>e=.returned (.agg #[.int .i64 (enC C x p:Nat),.int .i64 (enS C x p:Nat)])/\Below w.heap.size w w':=by
 have h:=endOf_any b off cap C loops x (!p) w hm h1 h2 hbw hC
 have e:=en_may hm x p h1 h2
 rw[Bool.not_not]at h
 rw[e.1]at h
 exact h
theorem heightOf_any (b off cap:Nat) (C:List Cr) (loops:Int) (x:Nat) (w:World) (hm:mayD C loops=true) (h1:1<=x) (h2:x<=2*C.length) (hbw:b<w.heap.size) (hC:CrossAt w b off C):
    Calls Try.prog 70 #[.agg #[.slice (some ⟨b,off,none⟩) C.length cap,.int .i64 loops],.int .i64 x] w fun e w'=>e=.returned (.int .i64 (hgt C x:Nat))/\Below w.heap.size w w':=by
 obtain⟨V,hV⟩:∃ V,w.alloc (.cells #[.slice (some ⟨b,off,none⟩) C.length cap,.int .i64 loops] 24)=V:=⟨_,rfl⟩
 have HBV:=hidB (show Below w.heap.size w V by rw[<-hV];exact(Below.refl _ _).alloc (Nat.le_refl _) _)
 have HT0:Hid (V.heap[w.heap.size]?=some (.cells #[.slice (some ⟨b,off,none⟩) C.length cap,.int .i64 loops] 24 (0,0))):=(by rw[<-hV];exact alloc_at rfl:V.heap[w.heap.size]?=_)
 have hsV:w.heap.size+1<=V.heap.size:=by rw[<-hV];simp
 have HSV:Hid (∀ W,Below V.heap.size V W->(fun X:World=>X.cell? ⟨w.heap.size,0,none⟩=some (.slice (some ⟨b,off,none⟩) C.length cap)/\X.cell? ⟨w.heap.size,1,none⟩=some (.int .i64 loops)) W):=fun W hW=>by
  have k0:=(hW.block _ (by omega)).trans HT0.out
  exact⟨block_cell k0 rfl,block_cell k0 rfl⟩
 have HCV:Hid (∀ W,Below V.heap.size V W->CrossAt W b off C/\b<W.heap.size):=fun W hW=>by
  have h:=HBV.out.trans (hW.mono (by omega))
  exact⟨hC.on h hbw,Nat.lt_of_lt_of_le hbw h.size⟩
 have HE1:Hid (∀ W,Below V.heap.size V W->Calls Try.prog 63 #[.agg #[.slice (some ⟨b,off,none⟩) C.length cap,.int .i64 loops],.int .i64 x,.bool false] W fun e w'=>e=.returned (.agg #[.int .i64 (enC C x true:Nat),.int .i64 (enS C x true:Nat)])/\Below W.heap.size W w'):=fun W hW=>endOf_is b off cap C loops x true W hm h1 h2 (HCV.out W hW).2 (HCV.out W hW).1
 have HE2:Hid (∀ W,Below V.heap.size V W->Calls Try.prog 63 #[.agg #[.slice (some ⟨b,off,none⟩) C.length cap,.int .i64 loops],.int .i64 x,.bool true] W fun e w'=>e=.returned (.agg #[.int .i64 (enC C x false:Nat),.int .i64 (enS C x false:Nat)])/\Below W.heap.size W w'):=fun W hW=>endOf_is b off cap C loops x false W hm h1 h2 (HCV.out W hW).2 (HCV.out W hW).1
 unfold hgt
 generalize enC C x true=c1 at HE1
 generalize enC C x false=c2 at HE2
 generalize enS C x true=s1 at HE1 ⊢
 generalize enS C x false=s2 at HE2 ⊢
 obtain⟨r1,hr1⟩:∃ r,s1%2=r:=⟨_,rfl⟩
 obtain⟨r2,hr2⟩:∃ r,s2%2=r:=⟨_,rfl⟩
 have t1:(s1:Int).tmod 2=(r1:Int):=by rw[Int.tmod_eq_emod_of_nonneg (by omega)];omega
 have t2:(s2:Int).tmod 2=(r2:Int):=by rw[Int.tmod_eq_emod_of_nonneg (by omega)];omega
 have w1:IntKind.i64.wrap (r1:Int)=(r1:Int):=IntWalk.i64_in _ (by omega)
 have w2:IntKind.i64.wrap (r2:Int)=(r2:Int):=IntWalk.i64_in _ (by omega)
 have w3:IntKind.i64.wrap ((r1:Int)+(r2:Int))=(r1:Int)+(r2:Int):=IntWalk.i64_in _ (by omega)
 have g1:∀ W:World,(Instr.field 96 (.agg #[.int .i64 (c1:Nat),.int .i64 (s1:Nat)]) 1).run Try.prog W=.ok (.int .i64 (s1:Nat)) W:=fun W=>by kernel_rfl
 have g2:∀ W:World,(Instr.field 96 (.agg #[.int .i64 (c2:Nat),.int .i64 (s2:Nat)]) 1).run Try.prog W=.ok (.int .i64 (s2:Nat)) W:=fun W=>by kernel_rfl
 have HDV:Hid (Below V.heap.size V V.drew):=(Below.refl _ _).drew
 have HV:=hid_of hV
 rw[hr1,hr2]
 clear hr1 hr2 hV hm hC
 go_enter Try.func70,Try.ntmps70
 go_wp2
 rw[HV.out]
 refine rhd HSV HDV.out (fun hHeld=>?_)
 refine tk 0 (h:=?_)
 refine tk 1 (h:=?_)
 refine tk 5 (h:=?_)
 refine tk 6 (h:=?_)
 try simp only[Act.put]
 refine rd1 2 (fun K hK=>?_)
 go_simp
 go_wp2_with (go_at_call 63;refine(HE1.out _ HDV.out).mono ?_;rintro e9 w5 ⟨rfl,hb5⟩)
 have HB5:=hid_of (HDV.out.trans (hb5.mono HDV.out.size))
 clear hb5
 refine hK.out _ _ (HSV.out _ HB5.out) (fun hHeld=>?_)
 clear hK K
 refine tk 3 (h:=?_)
 refine tk 4 (h:=?_)
 try simp only[Act.put]
 refine rd1 7 (fun K hK=>?_)
 go_simp
 go_wp2_with (go_at_call 63;refine(HE2.out _ HB5.out).mono ?_;rintro e9 w6 ⟨rfl,hb6⟩)
 have HB6:=hid_of (HB5.out.trans (hb6.mono HB5.out.size))
 clear hb6
 refine hK.out _ _ (HSV.out _ HB6.out) (fun hHeld=>?_)
 clear hK K
 refine tk 8 (h:=?_)
 refine tk 9 (h:=?_)
 refine tk 10 (h:=?_)
 refine tk 11 (h:=?_)
 try simp only[Act.put]
 refine wpAnyH_done (by kernel_rfl) ?_ _
 clear hHeld
 simp only[List.getElem_toArray,List.getElem_cons_succ,List.getElem_cons_zero]
 go_wp2
 go_ret
 refine⟨?_,HBV.out.trans (HB6.out.mono (by omega))⟩
 show Ending.returned (.int .i64 ((r1:Int)+(r2:Int)))=_
 rw[Int.natCast_add]
def caB (C:List Cr) (k:Nat):Bool:=(List.range 4).any fun s=>decide ((C.getD k Cr.none).arc s=(C.getD k Cr.none).arc ((s+1)%4))
theorem curlAt_any (b off cap:Nat) (C:List Cr) (loops:Int) (k:Nat) (w:World) (hk:k<C.length) (hbw:b<w.heap.size) (hC:CrossAt w b off C):
    Calls Try.prog 34 #[.agg #[.slice (some ⟨b,off,none⟩) C.length cap,.int .i64 loops],.int .i64 k] w fun e w'=>e=.returned (.bool (caB C k))/\Below w.heap.size w w':=by
 obtain⟨V,hV⟩:∃ V,w.alloc (.cells #[.slice (some ⟨b,off,none⟩) C.length cap,.int .i64 loops] 24)=V:=⟨_,rfl⟩
 have HBV:=hidB (show Below w.heap.size w V by rw[<-hV];exact(Below.refl _ _).alloc (Nat.le_refl _) _)
 have HT0:Hid (V.heap[w.heap.size]?=some (.cells #[.slice (some ⟨b,off,none⟩) C.length cap,.int .i64 loops] 24 (0,0))):=(by rw[<-hV];exact alloc_at rfl:V.heap[w.heap.size]?=_)
 have hsV:w.heap.size+1<=V.heap.size:=by rw[<-hV];simp
 have HSV:Hid (∀ W,Below V.heap.size V W->(fun X:World=>X.cell? ⟨w.heap.size,0,none⟩=some (.slice (some ⟨b,off,none⟩) C.length cap)/\X.cell? ⟨w.heap.size,1,none⟩=some (.int .i64 loops)) W):=fun W hW=>by
  have k0:=(hW.block _ (by omega)).trans HT0.out
  exact⟨block_cell k0 rfl,block_cell k0 rfl⟩
 have HCV:Hid (∀ W,Below V.heap.size V W->CrossAt W b off C/\b<W.heap.size):=fun W hW=>by
  have h:=HBV.out.trans (hW.mono (by omega))
  exact⟨hC.on h hbw,Nat.lt_of_lt_of_le hbw h.size⟩
 have HAR:Hid (∀ (s:Nat) (W:World),s<4->Below V.heap.size V W->Calls Try.prog 60 #[.agg #[.slice (some ⟨b,off,none⟩) C.length cap,.int .i64 loops],.agg #[.int .i64 k,.int .i64 s]] W fun e w'=>e=.returned (.int .i64 ((C.getD k Cr.none).arc s))/\Below W.heap.size W w'):=fun s W hs hW=>arcAt_any b off cap loops C k s W hk hs (HCV.out W hW).2 (HCV.out W hW).1
 have HB:Hid (caB C k=true↔∃ s,s<4/\(C.getD k Cr.none).arc s=(C.getD k Cr.none).arc ((s+1)%4)):=(by
  unfold caB
  rw[List.any_eq_true]
  constructor
  · rintro⟨s,h1,h2⟩
    exact⟨s,List.mem_range.1 h1,of_decide_eq_true h2⟩
  · rintro⟨s,h1,h2⟩
    exact⟨s,List.mem_range.2 h1,decide_eq_true h2⟩:caB C k=true↔∃ s,s<4/\(C.getD k Cr.none).arc s=(C.getD k Cr.none).arc ((s+1)%4))
 generalize caB C k=B at HB ⊢
 generalize C.getD k Cr.none=X at HAR HB
 have HV:=hid_of hV
 clear hV hC
 go_enter Try.func34,Try.ntmps34
 go_wp2
 rw[HV.out]
 go_loopw [5] (fun v5 wr=>∃ s:Nat,s<=4/\v5=.int .i64 (s:Nat)/\Hid (∀ t,t<s->X.arc t≠X.arc ((t+1)%4))/\Hid (Below V.heap.size V wr)) (fun v5 _=>4-(intOf v5).toNat)
 case atStart=>exact⟨0,by omega,rfl,(fun t ht=>by omega),Below.refl _ _⟩
 case round=>
  rename World=>W1
  obtain⟨s,hs,rfl,hN,hB⟩:=hrel
  have HBW:=hid_of hB.out
  have HN:=hid_of hN.out
  clear hN hB
  by_cases hs4:s<4
  · have d1:(s:Int)<4:=by omega
    obtain⟨s1,hs1⟩:∃ s1,(s+1)%4=s1:=⟨_,rfl⟩
    have hs1b:s1<4:=by omega
    have u1:IntKind.i64.wrap ((s:Int)+1)=(s:Int)+1:=IntWalk.i64_in _ (by omega)
    have u2:((s:Int)+1).tmod 4=(s1:Int):=by rw[Int.tmod_eq_emod_of_nonneg (by omega)];omega
    have u3:IntKind.i64.wrap (s1:Int)=(s1:Int):=IntWalk.i64_in _ (by omega)
    have HDW:=hidB HBW.out.drew
    have HA1:=hid_of (HAR.out s W1.drew hs4 HDW.out)
    have HA2:Hid (∀ W,Below V.heap.size V W->Calls Try.prog 60 #[.agg #[.slice (some ⟨b,off,none⟩) C.length cap,.int .i64 loops],.agg #[.int .i64 k,.int .i64 s1]] W fun e w'=>e=.returned (.int .i64 (X.arc s1))/\Below W.heap.size W w'):=fun W hW=>HAR.out s1 W hs1b hW
    have HNX:Hid (X.arc s≠X.arc s1->∀ t,t<s+1->X.arc t≠X.arc ((t+1)%4)):=fun h t ht=>by
     by_cases e:t=s
     · rw[e,hs1];exact h
     · exact HN.out t (by omega)
    have HYS:Hid (X.arc s=X.arc s1->B=true):=fun h=>HB.out.2 ⟨s,hs4,by rw[hs1];exact h⟩
    generalize X.arc s=p at HA1 HNX HYS
    generalize X.arc s1=q at HA2 HNX HYS
    clear hs1
    go_wp2
    refine rhd HSV HDW.out (fun hHeld=>?_)
    refine tk 0 (h:=?_)
    refine tk 1 (h:=?_)
    refine tk 2 (h:=?_)
    refine tk 3 (h:=?_)
    refine tk 5 (h:=?_)
    refine tk 6 (h:=?_)
    refine tk 7 (h:=?_)
    refine tk 8 (h:=?_)
    refine tk 9 (h:=?_)
    refine tk 10 (h:=?_)
    try simp only[Act.put]
    refine rd1 4 (fun K hK=>?_)
    go_simp
    go_wp2_with (go_at_call 60;refine HA1.out.mono ?_;rintro e9 w5 ⟨rfl,hb5⟩)
    have HB5:=hid_of (HDW.out.trans (hb5.mono HDW.out.size))
    clear hb5
    refine hK.out _ _ (HSV.out _ HB5.out) (fun hHeld=>?_)
    clear hK K
    try simp only[Act.put]
    refine rd1 11 (fun K hK=>?_)
    go_simp
    go_wp2_with (go_at_call 60;refine(HA2.out _ HB5.out).mono ?_;rintro e9 w6 ⟨rfl,hb6⟩)
    have HB6:=hid_of (HB5.out.trans (hb6.mono HB5.out.size))
    clear hb6
    refine hK.out _ _ (HSV.out _ HB6.out) (fun hHeld=>?_)
    clear hK K
    refine tk 12 (h:=?_)
    try simp only[Act.put]
    refine wpAnyH_done (by kernel_rfl) ?_ _
    clear hHeld
    by_cases hpq:p=q
    · have d2:(p==q)=true:=beq_iff_eq.2 hpq
      have HF:=hid_of (HYS.out hpq)
      clear hpq
      go_wp2
      go_ret
      exact⟨ret_bool HF.out,HBV.out.trans (HB6.out.mono (by omega))⟩
    · have d2:(p==q)=false:=beq_eq_false_iff_ne.2 hpq
      have HF:=hid_of (HNX.out hpq)
      clear hpq
      go_wp2
      go_roundw
      case rel=>exact⟨s+1,by omega,by go_num,HF.out,HB6.out⟩
      case measure=>simp only[intOf];omega
  · obtain rfl:s=4:=by omega
    have HF:Hid (B=false):=(by
     cases hb:B with
     |false=>rfl
     |true=>
      obtain⟨t,h1,h2⟩:=HB.out.1 hb
      exact absurd h2 (HN.out t h1):B=false)
    go_wp2
    go_ret
    exact⟨ret_bool HF.out,HBV.out.trans (HBW.out.mono (by omega))⟩
theorem res_few {W:World} {g:Nat} {a b:Value} {x:Int} {tm:Array Value} (h:W.heap[g]?=some (.cells #[a,b] 24 (0,0))) (h2:tm[2]?=some (.pointer (some ⟨g,0,none⟩))) (h3:tm[3]?=some (.int .i64 x)):(results Try.f35 tm).run Try.prog W=.ok (.tuple #[.agg #[a,b],.int .i64 x]) W:=by
 have e0:W.cell? ⟨g,0,none⟩=some a:=block_cell h rfl
 have e1:W.cell? ⟨g,1,none⟩=some b:=block_cell h rfl
 simp[results,Try.results35,go_sem,h2,h3,e0,e1]
theorem fewLoops_yes (a:Option Addr) (n c:Nat) (lo:Int) (w:World) (h:lo<=16):
    Calls Try.prog 35 #[.agg #[.slice a n c,.int .i64 lo]] w fun e w'=>e=.returned (.tuple #[.agg #[.slice a n c,.int .i64 lo],.int .i64 0])/\Below w.heap.size w w':=by
 have hI:¬ (16:Int)<lo:=by omega
 have HB:Hid (Below w.heap.size w ((w.alloc (.cells #[.slice a n c,.int .i64 lo] 24)).alloc (.cells #[.slice a n c,.int .i64 lo] 24))):=((Below.refl _ _).alloc (Nat.le_refl _) _).alloc (by simp) _
 go_enter Try.func35,Try.ntmps35
 go_wp2
 exact bodyPost_ret (res_few (alloc_at (by simp)) rfl rfl) rfl ⟨rfl,HB.out⟩
theorem fewLoops_no (a:Option Addr) (n c:Nat) (lo:Int) (w:World) (h:16<lo):
    Calls Try.prog 35 #[.agg #[.slice a n c,.int .i64 lo]] w fun e w'=>e=.returned (.tuple #[.agg #[.slice none 0 0,.int .i64 0],.int .i64 2])/\Below w.heap.size w w':=by
 have HB:Hid (Below w.heap.size w ((w.alloc (.cells #[.slice a n c,.int .i64 lo] 24)).alloc (.cells #[.slice none 0 0,.int .i64 0] 24))):=((Below.refl _ _).alloc (Nat.le_refl _) _).alloc (by simp) _
 go_enter Try.func35,Try.ntmps35
 go_wp2
 exact bodyPost_ret (res_few (alloc_at (by simp)) rfl rfl) rfl ⟨rfl,HB.out⟩
end Go.Proofs.Ytagaajlbkfkaiaa
