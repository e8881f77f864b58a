/- Moves: the walk of moves.laid. -/
import Derived.Test.YtagaajlbkfkaiaaMV1
import Derived.Test.YtagaajlbkfkaiaaF7P
namespace Go.Proofs.Ytagaajlbkfkaiaa
open Go.RowKit
set_option maxHeartbeats 4000000
set_option maxRecDepth 100000
theorem laid_no (v:Value) (C:List Cr) (loops:Int) (w:World) (hm:mayD C loops=false) (h:Crs w w.heap.size v C):
    Calls Try.prog 29 #[.agg #[v,.int .i64 loops]] w fun e w'=>e=.panicked (QZ7 7)/\Below w.heap.size w w':=by
 have HC:=hidB h
 obtain⟨a,cap,rfl,hn,-⟩:=h
 have HB1:Hid (Below w.heap.size w ((w.alloc (.cells #[.slice a C.length cap,.int .i64 loops] 24)).alloc (.cells #[.slice none 0 0,.int .i64 0,.slice none 0 0,.slice none 0 0] 63))):=QJ3 _ _ _
 go_enter Try.func29,Try.ntmps29
 go_wp2_with (go_at_call 50;refine(of_any _ C loops _ (HC.out.up HB1.out)).mono ?_;rw[hm];rintro e9 w2 ⟨d,rfl,hb2,hd⟩;rw[hd.no hm];refine Hid.out ?_)
 refine Lib.hid ?_
 unfold QX7
 have HB2:Hid (Below w.heap.size w w2):=HB1.out.trans (hb2.mono (by simp;omega))
 have HB3:Hid (Below w.heap.size w (w2.alloc (.cells #[.slice none 0 0,.int .i64 0,.slice none 0 0,.slice none 0 0] 61))):=HB2.out.alloc HB2.out.size _
 clear hb2 hd
 go_wp2_with (go_at_call 41;refine(QK0 7 _).mono ?_;rintro e9 w3 ⟨rfl,rfl⟩)
 exact⟨rfl,rfl,HB3.out⟩
theorem laid_bad (hFR:QK5) (v:Value) (C:List Cr) (loops:Int) (w:World) (hm:mayD C loops=true) (hp:QX1 C=false) (h:Crs w w.heap.size v C):
    Calls Try.prog 29 #[.agg #[v,.int .i64 loops]] w fun e w'=>e=.panicked (QZ7 7)/\Below w.heap.size w w':=by
 have HC:=hidB h
 have HFA:Hid QK5:=hFR
 have HM:=hidB hm
 have HP:=hidB hp
 obtain⟨a,cap,rfl,hn,-⟩:=h
 have HB1:Hid (Below w.heap.size w ((w.alloc (.cells #[.slice a C.length cap,.int .i64 loops] 24)).alloc (.cells #[.slice none 0 0,.int .i64 0,.slice none 0 0,.slice none 0 0] 63))):=QJ3 _ _ _
 go_enter Try.func29,Try.ntmps29
 go_wp2_with (go_at_call 50;refine(of_any _ C loops _ (HC.out.up HB1.out)).mono ?_;rw[hm];rintro e9 w2 ⟨d,rfl,hb2,hd⟩;obtain⟨gF,cF,gT,cT,rfl,hdr⟩:=hd.dr HM.out hb2 (HC.out.up HB1.out);refine Hid.out ?_)
 refine Lib.hid ?_
 have HDR:=hidB hdr
 unfold drV
 have HB2:Hid (Below w.heap.size w w2):=HB1.out.trans (hb2.mono (by simp;omega))
 have HBA:Hid (Below w2.heap.size w2 (w2.alloc (.cells #[.slice a C.length cap,.int .i64 loops,.slice (some ⟨gF,0,none⟩) (2*C.length+1) cF,.slice (some ⟨gT,0,none⟩) (2*C.length+1) cT] 61))):=(Below.refl _ _).alloc (Nat.le_refl _) _
 clear hb2 hd hdr hm hp
 go_wp2_with (first
  |(go_at_call 41;refine(QK0 7 _).mono ?_;rintro e9 w4 ⟨rfl,rfl⟩)
  |(go_at_call 51;refine(onSphere_any HFA.out a cap C loops gF cF gT cT _ HM.out (HDR.out.on HBA.out)).mono ?_;rw[HP.out];rintro e9 w3 ⟨rfl,hb3⟩;have HB3:Hid (Below w.heap.size w w3):=HB2.out.trans ((HBA.out.trans (hb3.mono (by simp))).mono HB2.out.size);clear hb3))
 exact⟨rfl,rfl,HB3.out⟩
theorem laid_yes (hFR:QK5) (a:Option Addr) (cap:Nat) (C:List Cr) (loops:Int) (w:World) (hm:mayD C loops=true) (hp:QX1 C=true) (h:Crs w w.heap.size (.slice a C.length cap) C):
    Calls Try.prog 29 #[.agg #[.slice a C.length cap,.int .i64 loops]] w fun e w'=>∃ gF cF gT cT,e=.returned (drV a cap C loops gF cF gT cT)/\(Dr w' a cap C gF gT/\w.heap.size<=gF/\w.heap.size<=gT)/\Below w.heap.size w w':=by
 have HC:=hidB h
 have HFA:Hid QK5:=hFR
 have HM:=hidB hm
 have HP:=hidB hp
 have HB1:Hid (Below w.heap.size w ((w.alloc (.cells #[.slice a C.length cap,.int .i64 loops] 24)).alloc (.cells #[.slice none 0 0,.int .i64 0,.slice none 0 0,.slice none 0 0] 63))):=QJ3 _ _ _
 go_enter Try.func29,Try.ntmps29
 go_wp2_with (go_at_call 50;refine(of_any _ C loops _ (HC.out.up HB1.out)).mono ?_;rw[hm];rintro e9 w2 ⟨d,rfl,hb2,hd⟩;obtain⟨gF,cF,gT,cT,rfl,hdr,hF,hT⟩:=hd.dr2 HM.out hb2 (HC.out.up HB1.out);refine Hid.out ?_)
 refine Lib.hid ?_
 have HDR:=hidB hdr
 have HF:Hid (w2.ownsRow (w.heap.size+2) 120 2 (.slice (some ⟨gF,0,none⟩) (2*C.length+1) cF) (2*C.length+1) (flat (ends C false C.length 0))):=QX4 hF (by simp)
 have HT:Hid (w2.ownsRow (w.heap.size+2) 120 2 (.slice (some ⟨gT,0,none⟩) (2*C.length+1) cT) (2*C.length+1) (flat (ends C true C.length 0))):=QX4 hT (by simp)
 unfold drV
 have HB2:Hid (Below w.heap.size w w2):=HB1.out.trans (hb2.mono (by simp;omega))
 have hR:w2.heap[w.heap.size+1]?=some (.cells #[.slice none 0 0,.int .i64 0,.slice none 0 0,.slice none 0 0] 63 (0,0)):=(hb2.block _ (by simp)).trans (alloc_at (by simp))
 have hs2:w.heap.size+2<=w2.heap.size:=by have:=hb2.size;simpa using this
 have HR:=hidB hR
 have HBA:Hid (Below w2.heap.size w2 (w2.alloc (.cells #[.slice a C.length cap,.int .i64 loops,.slice (some ⟨gF,0,none⟩) (2*C.length+1) cF,.slice (some ⟨gT,0,none⟩) (2*C.length+1) cT] 61))):=(Below.refl _ _).alloc (Nat.le_refl _) _
 clear hb2 hd hdr hm hR hp hF hT
 go_wp2_with (first
  |(go_at_call 41;refine(QZ3 7 _).mono ?_;rintro e9 w4 ⟨rfl,e4⟩;refine Hid.out ?_)
  |(go_at_call 51;refine(onSphere_any HFA.out a cap C loops gF cF gT cT _ HM.out (HDR.out.on HBA.out)).mono ?_;rw[HP.out];rintro e9 w3 ⟨rfl,hb3⟩))
 refine Lib.hid ?_
 clear e4
 have HB23:=hidB (HBA.out.trans (hb3.mono (by simp)))
 have HB3:=hidB (HB2.out.trans (HB23.out.mono HB2.out.size))
 have hR:w3.heap[w.heap.size+1]?=some (.cells #[.slice none 0 0,.int .i64 0,.slice none 0 0,.slice none 0 0] 63 (0,0)):=(HB23.out.block _ (by omega)).trans HR.out
 have hQ:w3.heap[w2.heap.size]?=some (.cells #[.slice a C.length cap,.int .i64 loops,.slice (some ⟨gF,0,none⟩) (2*C.length+1) cF,.slice (some ⟨gT,0,none⟩) (2*C.length+1) cT] 61 (0,0)):=(hb3.block _ (by simp)).trans (alloc_at rfl)
 have hs3:w2.heap.size+1<=w3.heap.size:=by have:=hb3.size;simpa using this
 have HR3:=hidB hR
 have c0:=QQ0 (i:=0) hR rfl
 have c1:=QQ0 (i:=1) hR rfl
 have c2:=QQ0 (i:=2) hR rfl
 have c3:=QQ0 (i:=3) hR rfl
 have f0:=QQ2 (i:=0) hR
 have f1:=QQ2 (i:=1) hR
 have f2:=QQ2 (i:=2) hR
 have f3:=QQ2 (i:=3) hR
 have d0:=QQ0 (i:=0) hQ rfl
 have d1:=QQ0 (i:=1) hQ rfl
 have d2:=QQ0 (i:=2) hQ rfl
 have d3:=QQ0 (i:=3) hQ rfl
 have l2:w.heap.size+1<w3.heap.size:=by omega
 have l3:w2.heap.size<w3.heap.size:=by omega
 clear hb3 hR hQ
 go_wp2
 have hG:=QJ5 w3 (w.heap.size+1) (.slice a C.length cap) (.int .i64 loops) (.slice (some ⟨gF,0,none⟩) (2*C.length+1) cF) (.slice (some ⟨gT,0,none⟩) (2*C.length+1) cT)
 have hX:=QV0 (a:=.slice a C.length cap) (b:=.int .i64 loops) (c:=.slice (some ⟨gF,0,none⟩) (2*C.length+1) cF) (d:=.slice (some ⟨gT,0,none⟩) (2*C.length+1) cT) HR3.out
 have x0:=QQ0 (i:=0) (v:=.slice a C.length cap) hX rfl
 have x1:=QQ0 (i:=1) (v:=.int .i64 loops) hX rfl
 have x2:=QQ0 (i:=2) (v:=.slice (some ⟨gF,0,none⟩) (2*C.length+1) cF) hX rfl
 have x3:=QQ0 (i:=3) (v:=.slice (some ⟨gT,0,none⟩) (2*C.length+1) cT) hX rfl
 have hbb:=HB3.out.grown hG HB3.out.size (fun k hk=>by have:=Option.some.inj hk;omega)
 unfold st4 at x0 x1 x2 x3
 refine bodyPost_ret (v:=.agg #[.slice a C.length cap,.int .i64 loops,.slice (some ⟨gF,0,none⟩) (2*C.length+1) cF,.slice (some ⟨gT,0,none⟩) (2*C.length+1) cT]) (by simp[results,Try.results29,go_sem,x0,x1,x2,x3]) rfl ⟨gF,cF,gT,cT,rfl,⟨?_,by have h1:=(HF.out.lt gF rfl).1;omega,by have h1:=(HT.out.lt gT rfl).1;omega⟩,hbb⟩
 have hn:=QQ5 HB23.out none
 have gF2:=(QX0 HF.out hn).kept hG (Or.inr (fun e=>by have h1:=(HF.out.lt gF rfl).1;have h2:gF=w.heap.size+1:=Option.some.inj e;omega))
 have gT2:=(QX0 HT.out hn).kept hG (Or.inr (fun e=>by have h1:=(HT.out.lt gT rfl).1;have h2:gT=w.heap.size+1:=Option.some.inj e;omega))
 exact⟨HC.out.up hbb,(gF2.lt gF rfl).2,(gT2.lt gT rfl).2,QV4 gF2 (QX9 _ _ _ _),QV4 gT2 (QX9 _ _ _ _)⟩
end Go.Proofs.Ytagaajlbkfkaiaa
