/- Several texts of the proof, one behind the other. -/
import Derived.Test.YtagaajlbkfkaiaaME5
import Derived.Test.YtagaajlbkfkaiaaTkhP
import Derived.Deep.QuietTactic
import Derived.BigQuiet
/- Spots with other arcs: the program's map against the reference's set, one after another. -/
namespace Go.Proofs.Ytagaajlbkfkaiaa
open Go.RowKit
def putF (F:Nat->Option Int) (s:Nat) (y:Int):Nat->Option Int:=fun z=>if z=s then some y else F z
theorem relN_get (F:Nat->Option Int) (C:List Cr) (n q:Nat) (h:q<n):(relN F C n).getD q Cr.none=relX F q (C.getD q Cr.none):=by
 unfold relN
 rw[List.getD_eq_getElem?_getD,List.getElem?_map,List.getElem?_range h]
 rfl
theorem relX_other (F:Nat->Option Int) (i s q:Nat) (v:Int) (x:Cr) (hs:s<4) (h:q≠i):relX (putF F (4*i+4+s) v) q x=relX F q x:=by
 have e:∀ r,r<4->putF F (4*i+4+s) v (4*q+4+r)=F (4*q+4+r):=fun r hr=>by
  unfold putF
  exact if_neg (by omega)
 have e0:=e 0 (by omega)
 rw[Nat.add_zero]at e0
 unfold relX
 rw[e0,e 1 (by omega),e 2 (by omega),e 3 (by omega)]
theorem relX_same (F:Nat->Option Int) (i s:Nat) (v:Int) (x:Cr) (hs:s<4):relX (putF F (4*i+4+s) v) i x=(relX F i x).at s v:=by
 have h4:s=0∨s=1∨s=2∨s=3:=by omega
 rcases h4 with rfl|rfl|rfl|rfl<;>simp[relX,putF,Cr.at]
theorem relN_put (F:Nat->Option Int) (C:List Cr) (n i s:Nat) (v:Int) (hi:i<n) (hs:s<4):relN (putF F (4*i+4+s) v) C n=setL (relN F C n) i s v:=by
 apply List.ext_getElem?
 intro q
 unfold setL
 by_cases hq:q<n
 · by_cases e:q=i
   · subst e
     rw[List.getElem?_set_self (by rw[relN_len];exact hq),relN_get F C n q hq,<-relX_same F q s v _ hs]
     unfold relN
     rw[List.getElem?_map,List.getElem?_range hq]
     rfl
   · rw[List.getElem?_set_ne (fun h=>e h.symm)]
     unfold relN
     rw[List.getElem?_map,List.getElem?_map,List.getElem?_range hq]
     exact congrArg some (relX_other F i s q v _ hs e)
 · rw[List.getElem?_eq_none (by rw[relN_len];omega),List.getElem?_eq_none (by rw[List.length_set,relN_len];omega)]
theorem relN_none (C:List Cr):relN (fun _=>none) C C.length=C:=by
 apply List.ext_getElem?
 intro q
 unfold relN
 by_cases hq:q<C.length
 · rw[List.getElem?_map,List.getElem?_range hq,List.getElem?_eq_getElem hq]
   have e:C.getD q Cr.none=C[q]:=by rw[List.getD_eq_getElem?_getD,List.getElem?_eq_getElem hq];rfl
   show some (relX (fun _=>none) q (C.getD q Cr.none))=some C[q]
   rw[e]
   rfl
 · rw[List.getElem?_eq_none (by simp;omega),List.getElem?_eq_none (by omega)]
theorem one1_put (s:Nat) (y:Int):one1 s y=putF (fun _=>none) s y:=rfl
theorem curl_spots {C:List Cr} {loops:Int} (hm:mayD C loops=true) (x:Nat) (v:Int) (h1:1<=x) (h2:x<=2*C.length):relN (one1 (spN C x) v) C C.length=setL C (toC C x) (toS C x) v:=by
 have h:=(to_may hm x h1 h2).2
 rw[one1_put]
 unfold spN
 rw[relN_put _ _ _ _ _ _ h.1 h.2.1,relN_none]
end Go.Proofs.Ytagaajlbkfkaiaa
/- The walk of ref.cutIn. Made by genme7.py. -/
namespace Go.Proofs.Ytagaajlbkfkaiaa
open Go.RowKit
set_option maxHeartbeats 8000000
set_option maxRecDepth 100000
theorem cutIn_false (B b off cap g c:Nat) (C D:List Cr) (loops lo:Int) (x:Nat) (f:Int) (w:World) (hm:mayD C loops=true) (hx1:1<=x) (hx2:x<=2*C.length) (hf:0<=f/\f<=1000) (hbw:b<w.heap.size) (hC:CrossAt w b off C) (hDC:D.length=C.length) (ho:w.ownsRow B 71 5 (.slice (some ⟨g,0,none⟩) D.length c) D.length (crossCells D)):
    Calls Try.prog 68 #[.agg #[.slice (some ⟨b, off, none⟩) C.length cap, .int .i64 loops], .agg #[.slice (some ⟨g, 0, none⟩) D.length c, .int .i64 lo], .agg #[.int .i64 (x : Nat), .bool false], .int .i64 f] w fun e w' => e = .returned (.tuple #[.int .i64 (x : Nat), .int .i64 f, .int .i64 (f + 1)]) ∧ w'.ownsRow B 71 5 (.slice (some ⟨g, 0, none⟩) D.length c) D.length (crossCells (setL D (toC C x) (toS C x) (f + 1))) ∧ w.grownBy w' (some g) := by
 have hl:C.length<=16:=may_len hm
 obtain⟨hf0,hf1⟩:=hf
 have hwf:IntKind.i64.wrap (f+1)=f+1:=by
  have e1:(2:Int) ^ IntKind.i64.bits=18446744073709551616:=rfl
  have e2:(2:Int) ^ (IntKind.i64.bits-1)=9223372036854775808:=rfl
  have e3:(f+1)%18446744073709551616=f+1:=by omega
  have e4:¬ (f+1≥9223372036854775808):=by omega
  unfold IntKind.wrap
  simp only[e1,e2,e3]
  simp[e4]
 obtain⟨V,hV⟩:∃ V,((w.alloc (.cells #[.slice (some ⟨b,off,none⟩) C.length cap,.int .i64 loops] 24)).alloc (.cells #[.slice (some ⟨g,0,none⟩) D.length c,.int .i64 lo] 24)).alloc (.cells #[.int .i64 (x:Nat),.bool false] 26)=V:=⟨_,rfl⟩
 have HB:=hidB (show Below w.heap.size w V by rw[<-hV];exact below3 _ _ _ _)
 have HK0:Hid (V.heap[w.heap.size]?=some (.cells #[.slice (some ⟨b,off,none⟩) C.length cap,.int .i64 loops] 24 (0,0))):=(by rw[<-hV];exact alloc_old (alloc_old (alloc_at rfl)):V.heap[w.heap.size]?=_)
 have HK1:Hid (V.heap[w.heap.size+1]?=some (.cells #[.slice (some ⟨g,0,none⟩) D.length c,.int .i64 lo] 24 (0,0))):=(by rw[<-hV];exact alloc_old (alloc_at (by simp)):V.heap[w.heap.size+1]?=_)
 have HK2:Hid (V.heap[w.heap.size+1+1]?=some (.cells #[.int .i64 (x:Nat),.bool false] 26 (0,0))):=(by rw[<-hV];exact alloc_at (by simp):V.heap[w.heap.size+1+1]?=_)
 have hs:w.heap.size+3=V.heap.size:=by rw[<-hV];simp
 have HV:=hid_of hV
 have HO:=hidB (own_any ho (grown_below HB.out none))
 have hg:=ho.lt g rfl
 have HG:=hid_of hg
 clear hV ho
 have HSV:Hid (∀ W,V.grownBy W (some g)->(fun W:World=>W.cell? ⟨w.heap.size,0,none⟩=some (.slice (some ⟨b,off,none⟩) C.length cap)/\W.cell? ⟨w.heap.size,1,none⟩=some (.int .i64 loops)/\W.cell? ⟨w.heap.size+1,0,none⟩=some (.slice (some ⟨g,0,none⟩) D.length c)/\W.cell? ⟨w.heap.size+1,1,none⟩=some (.int .i64 lo)/\W.cell? ⟨w.heap.size+1+1,0,none⟩=some (.int .i64 (x:Nat))/\W.cell? ⟨w.heap.size+1+1,1,none⟩=some (.bool false)) W):=fun W hW=>by
  have q0:=(hW.block w.heap.size (by omega) (fun e=>by have:=Option.some.inj e;omega)).trans HK0.out
  have q1:=(hW.block (w.heap.size+1) (by omega) (fun e=>by have:=Option.some.inj e;omega)).trans HK1.out
  have q2:=(hW.block (w.heap.size+1+1) (by omega) (fun e=>by have:=Option.some.inj e;omega)).trans HK2.out
  exact⟨block_cell q0 rfl,block_cell q0 rfl,block_cell q1 rfl,block_cell q1 rfl,block_cell q2 rfl,block_cell q2 rfl⟩
 have HDV : Hid (Below V.heap.size V V.drew) := (Below.refl _ _).drew
 have HEN:=hid_of (fun(W:World) (hW:Below V.heap.size V W)=>endOf_is b off cap C loops x true W hm hx1 hx2 (by have:=hW.size;omega) (hC.on (HB.out.trans (hW.mono HB.out.size)) hbw))
 have hto:=(to_may hm x hx1 hx2).2
 have HST:=hid_of (fun(W:World) (hW:W.ownsRow B 71 5 (.slice (some ⟨g,0,none⟩) D.length c) D.length (crossCells D))=>set_any B g c D lo (toC C x) (toS C x) (f+1) W hto.2.1 (by omega) (by omega) hW)
 clear hC hm hto hDC
 go_enter Try.func68,Try.ntmps68
 go_upto_region 1 with(fail)
 rw[HV.out]
 refine rhd HSV (grown_below HDV.out _) (fun hHeld=>?_)
 refine tk 0 (h:=?_)
 refine tk 1 (h:=?_)
 refine tk 2 (h:=?_)
 refine tk 3 (h:=?_)
 refine tk 5 (h:=?_)
 refine tk 6 (h:=?_)
 try simp only[Act.put]
 refine rd1 4 (fun K hK=>?_)
 go_simp
 go_wp2_with (go_at_call 63;refine(HEN.out _ HDV.out).mono ?_;rintro e9 w5 ⟨rfl,hb5⟩)
 have HB5:=hid_of (HDV.out.trans (hb5.mono HDV.out.size))
 clear hb5
 refine hK.out _ _ (HSV.out _ (grown_below HB5.out _)) (fun hHeld=>?_)
 clear hK K
 try simp only[Act.put]
 refine rd1 7 (fun K hK=>?_)
 go_simp
 go_wp2_with (go_at_call 64;refine(HST.out _ (own_any HO.out (grown_below HB5.out none))).mono ?_;rintro e9 Y ⟨rfl,hoY,hgY⟩)
 have HOY:=hid_of hoY
 have HGY:=hid_of ((grown_below HB5.out _).trans hgY)
 clear hoY hgY
 refine hK.out _ _ (HSV.out _ HGY.out) (fun hHeld=>?_)
 clear hK K
 try simp only[Act.put]
 refine wpAnyH_done (by kernel_rfl) ?_ _
 clear hHeld
 have HGW:=hidB ((grown_below HB.out _).andThen HGY.out (fun j e=>Or.inr e))
 have d0:Y.cell? ⟨w.heap.size+1+1,0,none⟩=some (.int .i64 (x:Nat)):=(HSV.out _ HGY.out).2.2.2.2.1
 have d1:Y.cell? ⟨w.heap.size+1+1,1,none⟩=some (.bool false):=(HSV.out _ HGY.out).2.2.2.2.2
 clear HEN HST
 go_wp2
 exact bodyPost_ret (v:=.tuple #[.int .i64 (x:Nat),.int .i64 f,.int .i64 (f+1)]) (by simp[results,Try.results68,go_sem]) rfl ⟨rfl,HOY.out,HGW.out⟩
theorem cutIn_true (B b off cap g c:Nat) (C D:List Cr) (loops lo:Int) (x:Nat) (f:Int) (w:World) (hm:mayD C loops=true) (hx1:1<=x) (hx2:x<=2*C.length) (hf:0<=f/\f<=1000) (hbw:b<w.heap.size) (hC:CrossAt w b off C) (hDC:D.length=C.length) (ho:w.ownsRow B 71 5 (.slice (some ⟨g,0,none⟩) D.length c) D.length (crossCells D)):
    Calls Try.prog 68 #[.agg #[.slice (some ⟨b, off, none⟩) C.length cap, .int .i64 loops], .agg #[.slice (some ⟨g, 0, none⟩) D.length c, .int .i64 lo], .agg #[.int .i64 (x : Nat), .bool true], .int .i64 f] w fun e w' => e = .returned (.tuple #[.int .i64 (f + 1), .int .i64 f, .int .i64 (x : Nat)]) ∧ w'.ownsRow B 71 5 (.slice (some ⟨g, 0, none⟩) D.length c) D.length (crossCells (setL D (toC C x) (toS C x) (f + 1))) ∧ w.grownBy w' (some g) := by
 have hl:C.length<=16:=may_len hm
 obtain⟨hf0,hf1⟩:=hf
 have hwf:IntKind.i64.wrap (f+1)=f+1:=by
  have e1:(2:Int) ^ IntKind.i64.bits=18446744073709551616:=rfl
  have e2:(2:Int) ^ (IntKind.i64.bits-1)=9223372036854775808:=rfl
  have e3:(f+1)%18446744073709551616=f+1:=by omega
  have e4:¬ (f+1≥9223372036854775808):=by omega
  unfold IntKind.wrap
  simp only[e1,e2,e3]
  simp[e4]
 obtain⟨V,hV⟩:∃ V,((w.alloc (.cells #[.slice (some ⟨b,off,none⟩) C.length cap,.int .i64 loops] 24)).alloc (.cells #[.slice (some ⟨g,0,none⟩) D.length c,.int .i64 lo] 24)).alloc (.cells #[.int .i64 (x:Nat),.bool true] 26)=V:=⟨_,rfl⟩
 have HB:=hidB (show Below w.heap.size w V by rw[<-hV];exact below3 _ _ _ _)
 have HK0:Hid (V.heap[w.heap.size]?=some (.cells #[.slice (some ⟨b,off,none⟩) C.length cap,.int .i64 loops] 24 (0,0))):=(by rw[<-hV];exact alloc_old (alloc_old (alloc_at rfl)):V.heap[w.heap.size]?=_)
 have HK1:Hid (V.heap[w.heap.size+1]?=some (.cells #[.slice (some ⟨g,0,none⟩) D.length c,.int .i64 lo] 24 (0,0))):=(by rw[<-hV];exact alloc_old (alloc_at (by simp)):V.heap[w.heap.size+1]?=_)
 have HK2:Hid (V.heap[w.heap.size+1+1]?=some (.cells #[.int .i64 (x:Nat),.bool true] 26 (0,0))):=(by rw[<-hV];exact alloc_at (by simp):V.heap[w.heap.size+1+1]?=_)
 have hs:w.heap.size+3=V.heap.size:=by rw[<-hV];simp
 have HV:=hid_of hV
 have HO:=hidB (own_any ho (grown_below HB.out none))
 have hg:=ho.lt g rfl
 have HG:=hid_of hg
 clear hV ho
 have HSV:Hid (∀ W,V.grownBy W (some g)->(fun W:World=>W.cell? ⟨w.heap.size,0,none⟩=some (.slice (some ⟨b,off,none⟩) C.length cap)/\W.cell? ⟨w.heap.size,1,none⟩=some (.int .i64 loops)/\W.cell? ⟨w.heap.size+1,0,none⟩=some (.slice (some ⟨g,0,none⟩) D.length c)/\W.cell? ⟨w.heap.size+1,1,none⟩=some (.int .i64 lo)/\W.cell? ⟨w.heap.size+1+1,0,none⟩=some (.int .i64 (x:Nat))/\W.cell? ⟨w.heap.size+1+1,1,none⟩=some (.bool true)) W):=fun W hW=>by
  have q0:=(hW.block w.heap.size (by omega) (fun e=>by have:=Option.some.inj e;omega)).trans HK0.out
  have q1:=(hW.block (w.heap.size+1) (by omega) (fun e=>by have:=Option.some.inj e;omega)).trans HK1.out
  have q2:=(hW.block (w.heap.size+1+1) (by omega) (fun e=>by have:=Option.some.inj e;omega)).trans HK2.out
  exact⟨block_cell q0 rfl,block_cell q0 rfl,block_cell q1 rfl,block_cell q1 rfl,block_cell q2 rfl,block_cell q2 rfl⟩
 have HDV : Hid (Below V.heap.size V V.drew) := (Below.refl _ _).drew
 have HEN:=hid_of (fun(W:World) (hW:Below V.heap.size V W)=>endOf_is b off cap C loops x true W hm hx1 hx2 (by have:=hW.size;omega) (hC.on (HB.out.trans (hW.mono HB.out.size)) hbw))
 have hto:=(to_may hm x hx1 hx2).2
 have HST:=hid_of (fun(W:World) (hW:W.ownsRow B 71 5 (.slice (some ⟨g,0,none⟩) D.length c) D.length (crossCells D))=>set_any B g c D lo (toC C x) (toS C x) (f+1) W hto.2.1 (by omega) (by omega) hW)
 clear hC hm hto hDC
 go_enter Try.func68,Try.ntmps68
 go_upto_region 1 with(fail)
 rw[HV.out]
 refine rhd HSV (grown_below HDV.out _) (fun hHeld=>?_)
 refine tk 0 (h:=?_)
 refine tk 1 (h:=?_)
 refine tk 2 (h:=?_)
 refine tk 3 (h:=?_)
 refine tk 5 (h:=?_)
 refine tk 6 (h:=?_)
 try simp only[Act.put]
 refine rd1 4 (fun K hK=>?_)
 go_simp
 go_wp2_with (go_at_call 63;refine(HEN.out _ HDV.out).mono ?_;rintro e9 w5 ⟨rfl,hb5⟩)
 have HB5:=hid_of (HDV.out.trans (hb5.mono HDV.out.size))
 clear hb5
 refine hK.out _ _ (HSV.out _ (grown_below HB5.out _)) (fun hHeld=>?_)
 clear hK K
 try simp only[Act.put]
 refine rd1 7 (fun K hK=>?_)
 go_simp
 go_wp2_with (go_at_call 64;refine(HST.out _ (own_any HO.out (grown_below HB5.out none))).mono ?_;rintro e9 Y ⟨rfl,hoY,hgY⟩)
 have HOY:=hid_of hoY
 have HGY:=hid_of ((grown_below HB5.out _).trans hgY)
 clear hoY hgY
 refine hK.out _ _ (HSV.out _ HGY.out) (fun hHeld=>?_)
 clear hK K
 try simp only[Act.put]
 refine wpAnyH_done (by kernel_rfl) ?_ _
 clear hHeld
 have HGW:=hidB ((grown_below HB.out _).andThen HGY.out (fun j e=>Or.inr e))
 have d0:Y.cell? ⟨w.heap.size+1+1,0,none⟩=some (.int .i64 (x:Nat)):=(HSV.out _ HGY.out).2.2.2.2.1
 have d1:Y.cell? ⟨w.heap.size+1+1,1,none⟩=some (.bool true):=(HSV.out _ HGY.out).2.2.2.2.2
 clear HEN HST
 go_upto_region 3 with(fail)
 go_quiet (fail)
 go_wp2
 refine bodyPost_ret (v:=.tuple #[.int .i64 (f+1),.int .i64 f,.int .i64 (x:Nat)]) (by simp[results,Try.results68,go_sem]) rfl ⟨rfl,own_any HOY.out (grown_below (below_drewN (Below.refl Y.heap.size Y) _) none),HGW.out.andThen (grown_below (below_drewN (Below.refl Y.heap.size Y) _) none) (by simp)⟩
end Go.Proofs.Ytagaajlbkfkaiaa
