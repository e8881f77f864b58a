/- Several texts of the proof, one behind the other. -/
import Derived.Test.YtefooihnoajnlaaF8P
import Derived.Test.YtefooihnoajnlaaW5P
/- The walks of code.May, code.Faces and code.Planar. -/
namespace Go.Proofs.Ytefooihnoajnlaa
open Go.RowKit
theorem DartsOwn.low {w:World} {B B':Nat} {v:Value} {L:List (List Nat)} (h:DartsOwn w B v L) (hB:B'<=B):DartsOwn w B' v L:=by
 obtain⟨ys,h1,h2,h3⟩:=h
 exact⟨ys,h1,own_low h2 hB,fun j hj=>own_low (h3 j hj) hB⟩
theorem DartsOwn.any {w w':World} {B:Nat} {v:Value} {L:List (List Nat)} (h:DartsOwn w B v L) (hg:w.grownBy w' none):DartsOwn w' B v L:=by
 obtain⟨ys,h1,h2,h3⟩:=h
 exact⟨ys,h1,own_any h2 hg,fun j hj=>own_any (h3 j hj) hg⟩
end Go.Proofs.Ytefooihnoajnlaa
/- The walks of drawing.Flat and of ref.PlanarMay. -/
namespace Go.Proofs.Ytefooihnoajnlaa
open Go.RowKit
set_option maxHeartbeats 4000000
set_option maxRecDepth 100000
def noN (C:List Cr) (loops:Int):Int:=if mayD C loops=true then(if planarB C=true then 0 else 5) else 7
theorem Drawn.dr2 {w w' : World} {a : Option Addr} {cap : Nat} {loops : Int} {C : List Cr} {D : Value} (h : Drawn w w' w.heap.size (.slice a C.length cap) loops C D) (hm : mayD C loops = true) (hb : Below w.heap.size w w') (hC : Crs w w.heap.size (.slice a C.length cap) C) :
    ∃ gF cF gT cT,D=drV a cap C loops gF cF gT cT/\Dr w' a cap C gF gT/\w'.ownsRow w.heap.size 93 2 (.slice (some ⟨gF,0,none⟩) (2*C.length+1) cF) (2*C.length+1) (flat (ends C false C.length 0))/\
    w'.ownsRow w.heap.size 93 2 (.slice (some ⟨gT,0,none⟩) (2*C.length+1) cT) (2*C.length+1) (flat (ends C true C.length 0)):=by
 obtain⟨gF,cF,gT,cT,rfl,h1,h2⟩:=h.yes hm
 exact⟨gF,cF,gT,cT,rfl,⟨hC.up hb,(h1.lt gF rfl).2,(h2.lt gT rfl).2,own_terms h1 (ends_length _ _ _ _),own_terms h2 (ends_length _ _ _ _)⟩,h1,h2⟩
theorem flat_no (v : Value) (C : List Cr) (loops : Int) (w : World) (hm : mayD C loops = false) (h : Crs w w.heap.size v C) :
    Calls Try.prog 23 #[.agg #[v,.int .i64 loops]] w fun e w'=>e=.returned (.tuple #[noDrawing,.int .i64 7])/\Below w.heap.size w w':=by
 have HC:Hid (Crs w w.heap.size v C):=h
 obtain⟨a,cap,rfl,hn,-⟩:=h
 have HB1:Hid (Below w.heap.size w ((w.alloc (.cells #[.slice a C.length cap,.int .i64 loops] 24)).alloc (.cells #[.slice none 0 0,.int .i64 0,.slice none 0 0,.slice none 0 0] 41))):=below2 _ _ _
 go_enter Try.func23,Try.ntmps23
 go_wp2_with (go_at_call 38;refine(of_any _ C loops _ (HC.out.up HB1.out)).mono ?_;rw[hm];rintro e9 w2 ⟨d,rfl,hb2,hd⟩;rw[hd.no hm];refine Hid.out ?_)
 refine Lib.hid ?_
 unfold noDrawing
 have HB2:Hid (Below w.heap.size w w2):=HB1.out.trans (hb2.mono (by simp;omega))
 have hR:w2.heap[w.heap.size+1]?=some (.cells #[.slice none 0 0,.int .i64 0,.slice none 0 0,.slice none 0 0] 41 (0,0)):=(hb2.block _ (by simp)).trans (alloc_at (by simp))
 have hs2:w.heap.size+2<=w2.heap.size:=by have:=hb2.size;simpa using this
 have HR:Hid (w2.heap[w.heap.size+1]?=some (.cells #[.slice none 0 0,.int .i64 0,.slice none 0 0,.slice none 0 0] 41 (0,0))):=hR
 have c0:w2.cell? ⟨w.heap.size+1,0,none⟩=some (.slice none 0 0):=block_cell hR rfl
 have c1:w2.cell? ⟨w.heap.size+1,1,none⟩=some (.int .i64 0):=block_cell hR rfl
 have c2:w2.cell? ⟨w.heap.size+1,2,none⟩=some (.slice none 0 0):=block_cell hR rfl
 have c3:w2.cell? ⟨w.heap.size+1,3,none⟩=some (.slice none 0 0):=block_cell hR rfl
 have f0:w2.frozen? ⟨w.heap.size+1,0,none⟩=false:=block_frozen hR
 have f1:w2.frozen? ⟨w.heap.size+1,1,none⟩=false:=block_frozen hR
 have f2:w2.frozen? ⟨w.heap.size+1,2,none⟩=false:=block_frozen hR
 have f3:w2.frozen? ⟨w.heap.size+1,3,none⟩=false:=block_frozen hR
 have l2:w.heap.size+1<w2.heap.size:=by omega
 clear hb2 hd hR
 go_wp2
 have hX:=alloc_old (o:=.cells #[.slice none 0 0,.int .i64 0,.slice none 0 0,.slice none 0 0] 41) (st4_block (a:=.slice none 0 0) (b:=.int .i64 0) (c:=.slice none 0 0) (d:=.slice none 0 0) HR.out)
 have x0:=block_cell (i:=0) (v:=.slice none 0 0) hX rfl
 have x1:=block_cell (i:=1) (v:=.int .i64 0) hX rfl
 have x2:=block_cell (i:=2) (v:=.slice none 0 0) hX rfl
 have x3:=block_cell (i:=3) (v:=.slice none 0 0) hX rfl
 unfold st4 at x0 x1 x2 x3
 have hbb:=(HB2.out.grown (st4_grown w2 (w.heap.size+1) (.slice none 0 0) (.int .i64 0) (.slice none 0 0) (.slice none 0 0)) HB2.out.size (fun k hk=>by have:=Option.some.inj hk;omega)).alloc (Nat.le_trans HB2.out.size (st4_grown w2 (w.heap.size+1) (.slice none 0 0) (.int .i64 0) (.slice none 0 0) (.slice none 0 0)).size) (.cells #[.slice none 0 0,.int .i64 0,.slice none 0 0,.slice none 0 0] 41)
 exact bodyPost_ret (v:=.tuple #[.agg #[.slice none 0 0,.int .i64 0,.slice none 0 0,.slice none 0 0],.int .i64 7]) (by simp[results,Try.results23,go_sem,x0,x1,x2,x3]) rfl ⟨rfl,hbb⟩
theorem flat_bad (hFR : FaceRingsOk) (v : Value) (C : List Cr) (loops : Int) (w : World) (hm : mayD C loops = true) (hp : planarB C = false) (h : Crs w w.heap.size v C) :
    Calls Try.prog 23 #[.agg #[v,.int .i64 loops]] w fun e w'=>e=.returned (.tuple #[noDrawing,.int .i64 5])/\Below w.heap.size w w':=by
 have HC:Hid (Crs w w.heap.size v C):=h
 have HFA:Hid FaceRingsOk:=hFR
 have HM:Hid (mayD C loops=true):=hm
 have HP:Hid (planarB C=false):=hp
 obtain⟨a,cap,rfl,hn,-⟩:=h
 have HB1:Hid (Below w.heap.size w ((w.alloc (.cells #[.slice a C.length cap,.int .i64 loops] 24)).alloc (.cells #[.slice none 0 0,.int .i64 0,.slice none 0 0,.slice none 0 0] 41))):=below2 _ _ _
 go_enter Try.func23,Try.ntmps23
 go_wp2_with (go_at_call 38;refine(of_any _ C loops _ (HC.out.up HB1.out)).mono ?_;rw[hm];rintro e9 w2 ⟨d,rfl,hb2,hd⟩;obtain⟨gF,cF,gT,cT,rfl,hdr⟩:=hd.dr HM.out hb2 (HC.out.up HB1.out);refine Hid.out ?_)
 refine Lib.hid ?_
 have HDR:Hid (Dr w2 a cap C gF gT):=hdr
 unfold drV
 have HB2:Hid (Below w.heap.size w w2):=HB1.out.trans (hb2.mono (by simp;omega))
 have hR:w2.heap[w.heap.size+1]?=some (.cells #[.slice none 0 0,.int .i64 0,.slice none 0 0,.slice none 0 0] 41 (0,0)):=(hb2.block _ (by simp)).trans (alloc_at (by simp))
 have hs2:w.heap.size+2<=w2.heap.size:=by have:=hb2.size;simpa using this
 have HR:Hid (w2.heap[w.heap.size+1]?=some (.cells #[.slice none 0 0,.int .i64 0,.slice none 0 0,.slice none 0 0] 41 (0,0))):=hR
 have HBA:Hid (Below w2.heap.size w2 (w2.alloc (.cells #[.slice a C.length cap,.int .i64 loops,.slice (some ⟨gF,0,none⟩) (2*C.length+1) cF,.slice (some ⟨gT,0,none⟩) (2*C.length+1) cT] 41))):=(Below.refl _ _).alloc (Nat.le_refl _) _
 clear hb2 hd hdr hm hR hp
 go_wp2_with (go_at_call 39;refine(onSphere_any HFA.out a cap C loops gF cF gT cT _ HM.out (HDR.out.on HBA.out)).mono ?_;rw[HP.out];rintro e9 w3 ⟨rfl,hb3⟩;refine Hid.out ?_)
 refine Lib.hid ?_
 have HB23:Hid (Below w2.heap.size w2 w3):=HBA.out.trans (hb3.mono (by simp))
 have HB3:Hid (Below w.heap.size w w3):=HB2.out.trans (HB23.out.mono HB2.out.size)
 have hR:w3.heap[w.heap.size+1]?=some (.cells #[.slice none 0 0,.int .i64 0,.slice none 0 0,.slice none 0 0] 41 (0,0)):=(HB23.out.block _ (by omega)).trans HR.out
 have hQ:w3.heap[w2.heap.size]?=some (.cells #[.slice a C.length cap,.int .i64 loops,.slice (some ⟨gF,0,none⟩) (2*C.length+1) cF,.slice (some ⟨gT,0,none⟩) (2*C.length+1) cT] 41 (0,0)):=(hb3.block _ (by simp)).trans (alloc_at rfl)
 have hs3:w2.heap.size+1<=w3.heap.size:=by have:=hb3.size;simpa using this
 have HR3:Hid (w3.heap[w.heap.size+1]?=some (.cells #[.slice none 0 0,.int .i64 0,.slice none 0 0,.slice none 0 0] 41 (0,0))):=hR
 have c0:w3.cell? ⟨w.heap.size+1,0,none⟩=some (.slice none 0 0):=block_cell hR rfl
 have c1:w3.cell? ⟨w.heap.size+1,1,none⟩=some (.int .i64 0):=block_cell hR rfl
 have c2:w3.cell? ⟨w.heap.size+1,2,none⟩=some (.slice none 0 0):=block_cell hR rfl
 have c3:w3.cell? ⟨w.heap.size+1,3,none⟩=some (.slice none 0 0):=block_cell hR rfl
 have f0:w3.frozen? ⟨w.heap.size+1,0,none⟩=false:=block_frozen hR
 have f1:w3.frozen? ⟨w.heap.size+1,1,none⟩=false:=block_frozen hR
 have f2:w3.frozen? ⟨w.heap.size+1,2,none⟩=false:=block_frozen hR
 have f3:w3.frozen? ⟨w.heap.size+1,3,none⟩=false:=block_frozen hR
 have d0:w3.cell? ⟨w2.heap.size,0,none⟩=some (.slice a C.length cap):=block_cell hQ rfl
 have d1:w3.cell? ⟨w2.heap.size,1,none⟩=some (.int .i64 loops):=block_cell hQ rfl
 have d2:w3.cell? ⟨w2.heap.size,2,none⟩=some (.slice (some ⟨gF,0,none⟩) (2*C.length+1) cF):=block_cell hQ rfl
 have d3:w3.cell? ⟨w2.heap.size,3,none⟩=some (.slice (some ⟨gT,0,none⟩) (2*C.length+1) cT):=block_cell hQ rfl
 have l2:w.heap.size+1<w3.heap.size:=by omega
 have l3:w2.heap.size<w3.heap.size:=by omega
 clear hb3 hR hQ
 go_wp2
 have hG:=st4_grown w3 (w.heap.size+1) (.slice none 0 0) (.int .i64 0) (.slice none 0 0) (.slice none 0 0)
 have hX:=st4_block (a:=.slice none 0 0) (b:=.int .i64 0) (c:=.slice none 0 0) (d:=.slice none 0 0) HR3.out
 have x0:=block_cell (i:=0) (v:=.slice none 0 0) hX rfl
 have x1:=block_cell (i:=1) (v:=.int .i64 0) hX rfl
 have x2:=block_cell (i:=2) (v:=.slice none 0 0) hX rfl
 have x3:=block_cell (i:=3) (v:=.slice none 0 0) hX rfl
 have hbb:=HB3.out.grown hG HB3.out.size (fun k hk=>by have:=Option.some.inj hk;omega)
 unfold st4 at x0 x1 x2 x3
 exact bodyPost_ret (v:=.tuple #[.agg #[.slice none 0 0,.int .i64 0,.slice none 0 0,.slice none 0 0],.int .i64 5]) (by simp[results,Try.results23,go_sem,x0,x1,x2,x3]) rfl ⟨rfl,hbb⟩
theorem flat_yesB (hFR : FaceRingsOk) (a : Option Addr) (cap : Nat) (C : List Cr) (loops : Int) (w : World) (hm : mayD C loops = true) (hp : planarB C = true) (h : Crs w w.heap.size (.slice a C.length cap) C) :
    Calls Try.prog 23 #[.agg #[.slice a C.length cap,.int .i64 loops]] w fun e w'=>∃ gF cF gT cT,e=.returned (.tuple #[drV a cap C loops gF cF gT cT,.int .i64 0])/\(Dr w' a cap C gF gT/\w.heap.size<=gF/\w.heap.size<=gT)/\Below w.heap.size w w':=by
 have HC:Hid (Crs w w.heap.size (.slice a C.length cap) C):=h
 have HFA:Hid FaceRingsOk:=hFR
 have HM:Hid (mayD C loops=true):=hm
 have HP:Hid (planarB C=true):=hp
 have HB1:Hid (Below w.heap.size w ((w.alloc (.cells #[.slice a C.length cap,.int .i64 loops] 24)).alloc (.cells #[.slice none 0 0,.int .i64 0,.slice none 0 0,.slice none 0 0] 41))):=below2 _ _ _
 go_enter Try.func23,Try.ntmps23
 go_wp2_with (go_at_call 38;refine(of_any _ C loops _ (HC.out.up HB1.out)).mono ?_;rw[hm];rintro e9 w2 ⟨d,rfl,hb2,hd⟩;obtain⟨gF,cF,gT,cT,rfl,hdr,hF,hT⟩:=hd.dr2 HM.out hb2 (HC.out.up HB1.out);refine Hid.out ?_)
 refine Lib.hid ?_
 have HDR:Hid (Dr w2 a cap C gF gT):=hdr
 have HF:Hid (w2.ownsRow (w.heap.size+2) 93 2 (.slice (some ⟨gF,0,none⟩) (2*C.length+1) cF) (2*C.length+1) (flat (ends C false C.length 0))):=own_low hF (by simp)
 have HT:Hid (w2.ownsRow (w.heap.size+2) 93 2 (.slice (some ⟨gT,0,none⟩) (2*C.length+1) cT) (2*C.length+1) (flat (ends C true C.length 0))):=own_low hT (by simp)
 unfold drV
 have HB2:Hid (Below w.heap.size w w2):=HB1.out.trans (hb2.mono (by simp;omega))
 have hR:w2.heap[w.heap.size+1]?=some (.cells #[.slice none 0 0,.int .i64 0,.slice none 0 0,.slice none 0 0] 41 (0,0)):=(hb2.block _ (by simp)).trans (alloc_at (by simp))
 have hs2:w.heap.size+2<=w2.heap.size:=by have:=hb2.size;simpa using this
 have HR:Hid (w2.heap[w.heap.size+1]?=some (.cells #[.slice none 0 0,.int .i64 0,.slice none 0 0,.slice none 0 0] 41 (0,0))):=hR
 have HBA:Hid (Below w2.heap.size w2 (w2.alloc (.cells #[.slice a C.length cap,.int .i64 loops,.slice (some ⟨gF,0,none⟩) (2*C.length+1) cF,.slice (some ⟨gT,0,none⟩) (2*C.length+1) cT] 41))):=(Below.refl _ _).alloc (Nat.le_refl _) _
 clear hb2 hd hdr hm hR hp hF hT
 go_wp2_with (go_at_call 39;refine(onSphere_any HFA.out a cap C loops gF cF gT cT _ HM.out (HDR.out.on HBA.out)).mono ?_;rw[HP.out];rintro e9 w3 ⟨rfl,hb3⟩;refine Hid.out ?_)
 refine Lib.hid ?_
 have HB23:Hid (Below w2.heap.size w2 w3):=HBA.out.trans (hb3.mono (by simp))
 have HB3:Hid (Below w.heap.size w w3):=HB2.out.trans (HB23.out.mono HB2.out.size)
 have hR:w3.heap[w.heap.size+1]?=some (.cells #[.slice none 0 0,.int .i64 0,.slice none 0 0,.slice none 0 0] 41 (0,0)):=(HB23.out.block _ (by omega)).trans HR.out
 have hQ:w3.heap[w2.heap.size]?=some (.cells #[.slice a C.length cap,.int .i64 loops,.slice (some ⟨gF,0,none⟩) (2*C.length+1) cF,.slice (some ⟨gT,0,none⟩) (2*C.length+1) cT] 41 (0,0)):=(hb3.block _ (by simp)).trans (alloc_at rfl)
 have hs3:w2.heap.size+1<=w3.heap.size:=by have:=hb3.size;simpa using this
 have HR3:Hid (w3.heap[w.heap.size+1]?=some (.cells #[.slice none 0 0,.int .i64 0,.slice none 0 0,.slice none 0 0] 41 (0,0))):=hR
 have c0:w3.cell? ⟨w.heap.size+1,0,none⟩=some (.slice none 0 0):=block_cell hR rfl
 have c1:w3.cell? ⟨w.heap.size+1,1,none⟩=some (.int .i64 0):=block_cell hR rfl
 have c2:w3.cell? ⟨w.heap.size+1,2,none⟩=some (.slice none 0 0):=block_cell hR rfl
 have c3:w3.cell? ⟨w.heap.size+1,3,none⟩=some (.slice none 0 0):=block_cell hR rfl
 have f0:w3.frozen? ⟨w.heap.size+1,0,none⟩=false:=block_frozen hR
 have f1:w3.frozen? ⟨w.heap.size+1,1,none⟩=false:=block_frozen hR
 have f2:w3.frozen? ⟨w.heap.size+1,2,none⟩=false:=block_frozen hR
 have f3:w3.frozen? ⟨w.heap.size+1,3,none⟩=false:=block_frozen hR
 have d0:w3.cell? ⟨w2.heap.size,0,none⟩=some (.slice a C.length cap):=block_cell hQ rfl
 have d1:w3.cell? ⟨w2.heap.size,1,none⟩=some (.int .i64 loops):=block_cell hQ rfl
 have d2:w3.cell? ⟨w2.heap.size,2,none⟩=some (.slice (some ⟨gF,0,none⟩) (2*C.length+1) cF):=block_cell hQ rfl
 have d3:w3.cell? ⟨w2.heap.size,3,none⟩=some (.slice (some ⟨gT,0,none⟩) (2*C.length+1) cT):=block_cell hQ rfl
 have l2:w.heap.size+1<w3.heap.size:=by omega
 have l3:w2.heap.size<w3.heap.size:=by omega
 clear hb3 hR hQ
 go_wp2
 have hG:=st4_grown w3 (w.heap.size+1) (.slice a C.length cap) (.int .i64 loops) (.slice (some ⟨gF,0,none⟩) (2*C.length+1) cF) (.slice (some ⟨gT,0,none⟩) (2*C.length+1) cT)
 have hX:=st4_block (a:=.slice a C.length cap) (b:=.int .i64 loops) (c:=.slice (some ⟨gF,0,none⟩) (2*C.length+1) cF) (d:=.slice (some ⟨gT,0,none⟩) (2*C.length+1) cT) HR3.out
 have x0:=block_cell (i:=0) (v:=.slice a C.length cap) hX rfl
 have x1:=block_cell (i:=1) (v:=.int .i64 loops) hX rfl
 have x2:=block_cell (i:=2) (v:=.slice (some ⟨gF,0,none⟩) (2*C.length+1) cF) hX rfl
 have x3:=block_cell (i:=3) (v:=.slice (some ⟨gT,0,none⟩) (2*C.length+1) cT) hX rfl
 have hbb:=HB3.out.grown hG HB3.out.size (fun k hk=>by have:=Option.some.inj hk;omega)
 unfold st4 at x0 x1 x2 x3
 refine bodyPost_ret (v:=.tuple #[.agg #[.slice a C.length cap,.int .i64 loops,.slice (some ⟨gF,0,none⟩) (2*C.length+1) cF,.slice (some ⟨gT,0,none⟩) (2*C.length+1) cT],.int .i64 0]) (by simp[results,Try.results23,go_sem,x0,x1,x2,x3]) rfl ⟨gF,cF,gT,cT,rfl,⟨?_,by have h1:=(HF.out.lt gF rfl).1;omega,by have h1:=(HT.out.lt gT rfl).1;omega⟩,hbb⟩
 have hn:=grown_below HB23.out none
 have gF2:=(own_any HF.out hn).kept hG (Or.inr (fun e=>by have h1:=(HF.out.lt gF rfl).1;have h2:gF=w.heap.size+1:=Option.some.inj e;omega))
 have gT2:=(own_any HT.out hn).kept hG (Or.inr (fun e=>by have h1:=(HT.out.lt gT rfl).1;have h2:gT=w.heap.size+1:=Option.some.inj e;omega))
 exact⟨HC.out.up hbb,(gF2.lt gF rfl).2,(gT2.lt gT rfl).2,own_terms gF2 (ends_length _ _ _ _),own_terms gT2 (ends_length _ _ _ _)⟩
theorem planarMay_any (v : Value) (C : List Cr) (loops : Int) (w : World) (h : Crs w w.heap.size v C) :
    Calls Try.prog 16 #[.agg #[v,.int .i64 loops]] w fun e w'=>e=.returned (.int .i64 (noN C loops))/\Below w.heap.size w w':=by
 have HC:Hid (Crs w w.heap.size v C):=h
 obtain⟨a,cap,rfl,hn,-⟩:=h
 have HB1:Hid (Below w.heap.size w (w.alloc (.cells #[.slice a C.length cap,.int .i64 loops] 24))):=(Below.refl _ _).alloc (Nat.le_refl _) _
 have HK:Hid (∀ w',Below (w.heap.size+1) (w.alloc (.cells #[.slice a C.length cap,.int .i64 loops] 24)) w'->w'.cell? ⟨w.heap.size,0,none⟩=some (.slice a C.length cap)/\w'.cell? ⟨w.heap.size,1,none⟩=some (.int .i64 loops)):=fun w' hb=>by
  have g:=(hb.block w.heap.size (by omega)).trans (alloc_at rfl)
  exact⟨block_cell g rfl,block_cell g rfl⟩
 cases hm:mayD C loops with
 |false=>
  have hN:noN C loops=7:=by unfold noN;rw[hm];rfl
  rw[hN]
  go_enter Try.func16,Try.ntmps16
  go_wp2_with (go_at_call 31;refine(may17_any _ C loops _ (HC.out.up HB1.out)).mono ?_;rw[hm];rintro e9 w2 ⟨rfl,hb2⟩;have HB2:Hid (Below w.heap.size w w2):=HB1.out.trans (hb2.mono HB1.out.size);clear hb2)
  go_ret
  exact⟨rfl,HB2.out⟩
 |true=>
  have HM:Hid (mayD C loops=true):=hm
  cases hp:planarB C with
  |false=>
   have hN:noN C loops=5:=by unfold noN;rw[hm,hp];rfl
   rw[hN]
   go_enter Try.func16,Try.ntmps16
   go_wp2_with (first
    |(go_at_call 31;refine(may17_any _ C loops _ (HC.out.up HB1.out)).mono ?_;rw[hm];rintro e9 w2 ⟨rfl,hb2⟩;have HB2:Hid (Below w.heap.size w w2):=HB1.out.trans (hb2.mono HB1.out.size);obtain⟨k0,k1⟩:=HK.out w2 (hb2.mono (by simp));clear hb2)
    |(go_at_call 32;refine(planarIs_any a cap C loops _ HM.out (HC.out.up HB2.out)).mono ?_;rw[hp];rintro e9 w3 ⟨rfl,hb3⟩;have HB3:Hid (Below w.heap.size w w3):=HB2.out.trans (hb3.mono HB2.out.size);clear hb3))
   go_ret
   exact⟨rfl,HB3.out⟩
  |true=>
   have hN:noN C loops=0:=by unfold noN;rw[hm,hp];rfl
   rw[hN]
   go_enter Try.func16,Try.ntmps16
   go_wp2_with (first
    |(go_at_call 31;refine(may17_any _ C loops _ (HC.out.up HB1.out)).mono ?_;rw[hm];rintro e9 w2 ⟨rfl,hb2⟩;have HB2:Hid (Below w.heap.size w w2):=HB1.out.trans (hb2.mono HB1.out.size);obtain⟨k0,k1⟩:=HK.out w2 (hb2.mono (by simp));clear hb2)
    |(go_at_call 32;refine(planarIs_any a cap C loops _ HM.out (HC.out.up HB2.out)).mono ?_;rw[hp];rintro e9 w3 ⟨rfl,hb3⟩;have HB3:Hid (Below w.heap.size w w3):=HB2.out.trans (hb3.mono HB2.out.size);clear hb3))
   go_ret
   exact⟨rfl,HB3.out⟩
theorem noN_zero {C:List Cr} {loops:Int} (h:noN C loops=0):mayD C loops=true/\planarB C=true:=by
 unfold noN at h
 by_cases hm:mayD C loops=true
 · rw[if_pos hm]at h
   by_cases hp:planarB C=true
   · exact⟨hm,hp⟩
   · rw[if_neg hp]at h;omega
 · rw[if_neg hm]at h;omega
theorem flat_not (hFR : FaceRingsOk) (a : Option Addr) (cap : Nat) (C : List Cr) (loops : Int) (W : World) (hn : noN C loops ≠ 0) (hW : Crs W W.heap.size (.slice a C.length cap) C) :
    Calls Try.prog 23 #[.agg #[.slice a C.length cap,.int .i64 loops]] W fun e w'=>e=.returned (.tuple #[noDrawing,.int .i64 (noN C loops)])/\Below W.heap.size W w':=by
 unfold noN at hn ⊢
 cases hm:mayD C loops with
 |false=>exact flat_no _ C loops W hm hW
 |true=>
  cases hp:planarB C with
  |false=>exact flat_bad hFR _ C loops W hm hp hW
  |true=>rw[hm,hp]at hn;exact absurd rfl hn
end Go.Proofs.Ytefooihnoajnlaa
