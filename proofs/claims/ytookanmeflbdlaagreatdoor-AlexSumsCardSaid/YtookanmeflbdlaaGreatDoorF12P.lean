/- Several texts of the proof, one behind the other. -/
import Derived.Test.YtookanmeflbdlaaGreatDoorF7P
import Derived.Test.YtookanmeflbdlaaGreatDoorTkhP
import Derived.Test.YtookanmeflbdlaaGreatDoorH7
import Derived.Test.YtookanmeflbdlaaGreatDoorF2P
import Derived.Test.YtookanmeflbdlaaGreatDoorW1P
/- The walks of code.May, code.Faces and code.Planar. -/
namespace Go.Proofs.YtookanmeflbdlaaGreatDoor
open Go.RowKit
theorem DartsOwn.low {w:World} {B B':Nat} {v:Value} {L:List (List Nat)} (h:DartsOwn w B v L) (hB:B'<=B):DartsOwn w B' v L:=by
 obtain⟨ys,h1,h2,h3⟩:=h
 exact⟨ys,h1,QZ7 h2 hB,fun j hj=>QZ7 (h3 j hj) hB⟩
theorem DartsOwn.any {w w':World} {B:Nat} {v:Value} {L:List (List Nat)} (h:DartsOwn w B v L) (hg:w.grownBy w' none):DartsOwn w' B v L:=by
 obtain⟨ys,h1,h2,h3⟩:=h
 exact⟨ys,h1,own_any h2 hg,fun j hj=>own_any (h3 j hj) hg⟩
end Go.Proofs.YtookanmeflbdlaaGreatDoor
/- The walks of drawing.Flat and of ref.PlanarMay. -/
namespace Go.Proofs.YtookanmeflbdlaaGreatDoor
open Go.RowKit
set_option maxHeartbeats 4000000
set_option maxRecDepth 100000
def noN (C:List Cr) (loops:Int):Int:=if QQ6 C loops=true then(if QX6 C=true then 0 else 5) else 7
theorem Drawn.dr2 {w w' : World} {a : Option Addr} {cap : Nat} {loops : Int} {C : List Cr} {D : Value} (h : Drawn w w' w.heap.size (.slice a C.length cap) loops C D) (hm : QQ6 C loops = true) (hb : Below w.heap.size w w') (hC : Crs w w.heap.size (.slice a C.length cap) C) :
    ∃ gF cF gT cT,D=drV a cap C loops gF cF gT cT/\Dr w' a cap C gF gT/\w'.ownsRow w.heap.size 129 2 (.slice (some ⟨gF,0,none⟩) (2*C.length+1) cF) (2*C.length+1) (flat (ends C false C.length 0))/\
    w'.ownsRow w.heap.size 129 2 (.slice (some ⟨gT,0,none⟩) (2*C.length+1) cT) (2*C.length+1) (flat (ends C true C.length 0)):=by
 obtain⟨gF,cF,gT,cT,rfl,h1,h2⟩:=h.yes hm
 exact⟨gF,cF,gT,cT,rfl,⟨hC.up hb,(h1.lt gF rfl).2,(h2.lt gT rfl).2,QG3 h1 (QZ3 _ _ _ _),QG3 h2 (QZ3 _ _ _ _)⟩,h1,h2⟩
theorem Kd1 (v : Value) (C : List Cr) (loops : Int) (w : World) (hm : QQ6 C loops = false) (h : Crs w w.heap.size v C) :
    Calls Tryz.prog 26 #[.agg #[v,.int .i64 loops]] w fun e w'=>e=.returned (.tuple #[QX0,.int .i64 7])/\Below w.heap.size w w':=by
 have HC:=hidB h
 obtain⟨a,cap,rfl,hn,-⟩:=h
 have HB1:Hid (Below w.heap.size w ((w.alloc (.cells #[.slice a C.length cap,.int .i64 loops] 24)).alloc (.cells #[.slice none 0 0,.int .i64 0,.slice none 0 0,.slice none 0 0] 49))):=QW3 _ _ _
 go_enter Tryz.func26,Tryz.ntmps26
 go_wp2_with (go_at_call 44;refine(ZX2 _ C loops _ (HC.out.up HB1.out)).mono ?_;rw[hm];rintro e9 w2 ⟨d,rfl,hb2,hd⟩;rw[hd.no hm];refine Hid.out ?_)
 refine Lib.hid ?_
 unfold QX0
 have HB2:Hid (Below w.heap.size w w2):=HB1.out.trans (hb2.mono (by simp;omega))
 have hR:w2.heap[w.heap.size+1]?=some (.cells #[.slice none 0 0,.int .i64 0,.slice none 0 0,.slice none 0 0] 49 (0,0)):=(hb2.block _ (by simp)).trans (alloc_at (by simp))
 have hs2:w.heap.size+2<=w2.heap.size:=by have:=hb2.size;simpa using this
 have HR:=hidB hR
 have c0:=QQ0 (i:=0) hR rfl
 have c1:=QQ0 (i:=1) hR rfl
 have c2:=QQ0 (i:=2) hR rfl
 have c3:=QQ0 (i:=3) hR rfl
 have f0:=QQ1 (i:=0) hR
 have f1:=QQ1 (i:=1) hR
 have f2:w2.frozen? ⟨w.heap.size+1,2,none⟩=false:=QQ1 hR
 have f3:w2.frozen? ⟨w.heap.size+1,3,none⟩=false:=QQ1 hR
 have l2:w.heap.size+1<w2.heap.size:=by omega
 clear hb2 hd hR
 go_wp2
 have hX:=alloc_old (o:=.cells #[.slice none 0 0,.int .i64 0,.slice none 0 0,.slice none 0 0] 49) (QX7 (a:=.slice none 0 0) (b:=.int .i64 0) (c:=.slice none 0 0) (d:=.slice none 0 0) HR.out)
 have x0:=QQ0 (i:=0) (v:=.slice none 0 0) hX rfl
 have x1:=QQ0 (i:=1) (v:=.int .i64 0) hX rfl
 have x2:=QQ0 (i:=2) (v:=.slice none 0 0) hX rfl
 have x3:=QQ0 (i:=3) (v:=.slice none 0 0) hX rfl
 unfold st4 at x0 x1 x2 x3
 have hbb:=(HB2.out.grown (QQ5 w2 (w.heap.size+1) (.slice none 0 0) (.int .i64 0) (.slice none 0 0) (.slice none 0 0)) HB2.out.size (fun k hk=>by have:=Option.some.inj hk;omega)).alloc (Nat.le_trans HB2.out.size (QQ5 w2 (w.heap.size+1) (.slice none 0 0) (.int .i64 0) (.slice none 0 0) (.slice none 0 0)).size) (.cells #[.slice none 0 0,.int .i64 0,.slice none 0 0,.slice none 0 0] 49)
 exact bodyPost_ret (v:=.tuple #[.agg #[.slice none 0 0,.int .i64 0,.slice none 0 0,.slice none 0 0],.int .i64 7]) (by simp[results,Tryz.results26,go_sem,x0,x1,x2,x3]) rfl ⟨rfl,hbb⟩
theorem KD6 (hFR : QQ8) (v : Value) (C : List Cr) (loops : Int) (w : World) (hm : QQ6 C loops = true) (hp : QX6 C = false) (h : Crs w w.heap.size v C) :
    Calls Tryz.prog 26 #[.agg #[v,.int .i64 loops]] w fun e w'=>e=.returned (.tuple #[QX0,.int .i64 5])/\Below w.heap.size w w':=by
 have HC:=hidB h
 have HFA:Hid QQ8:=hFR
 have HM:=hidB hm
 have HP:=hidB hp
 obtain⟨a,cap,rfl,hn,-⟩:=h
 have HB1:Hid (Below w.heap.size w ((w.alloc (.cells #[.slice a C.length cap,.int .i64 loops] 24)).alloc (.cells #[.slice none 0 0,.int .i64 0,.slice none 0 0,.slice none 0 0] 49))):=QW3 _ _ _
 go_enter Tryz.func26,Tryz.ntmps26
 go_wp2_with (go_at_call 44;refine(ZX2 _ C loops _ (HC.out.up HB1.out)).mono ?_;rw[hm];rintro e9 w2 ⟨d,rfl,hb2,hd⟩;obtain⟨gF,cF,gT,cT,rfl,hdr⟩:=hd.dr HM.out hb2 (HC.out.up HB1.out);refine Hid.out ?_)
 refine Lib.hid ?_
 have HDR:=hidB hdr
 unfold drV
 have HB2:Hid (Below w.heap.size w w2):=HB1.out.trans (hb2.mono (by simp;omega))
 have hR:w2.heap[w.heap.size+1]?=some (.cells #[.slice none 0 0,.int .i64 0,.slice none 0 0,.slice none 0 0] 49 (0,0)):=(hb2.block _ (by simp)).trans (alloc_at (by simp))
 have hs2:w.heap.size+2<=w2.heap.size:=by have:=hb2.size;simpa using this
 have HR:=hidB hR
 have HBA:Hid (Below w2.heap.size w2 (w2.alloc (.cells #[.slice a C.length cap,.int .i64 loops,.slice (some ⟨gF,0,none⟩) (2*C.length+1) cF,.slice (some ⟨gT,0,none⟩) (2*C.length+1) cT] 49))):=(Below.refl _ _).alloc (Nat.le_refl _) _
 clear hb2 hd hdr hm hR hp
 go_wp2_with (go_at_call 51;refine(Qd6 HFA.out a cap C loops gF cF gT cT _ HM.out (HDR.out.on HBA.out)).mono ?_;rw[HP.out];rintro e9 w3 ⟨rfl,hb3⟩;refine Hid.out ?_)
 refine Lib.hid ?_
 have HB23:=hidB (HBA.out.trans (hb3.mono (by simp)))
 have HB3:=hidB (HB2.out.trans (HB23.out.mono HB2.out.size))
 have hR:w3.heap[w.heap.size+1]?=some (.cells #[.slice none 0 0,.int .i64 0,.slice none 0 0,.slice none 0 0] 49 (0,0)):=(HB23.out.block _ (by omega)).trans HR.out
 have hQ:w3.heap[w2.heap.size]?=some (.cells #[.slice a C.length cap,.int .i64 loops,.slice (some ⟨gF,0,none⟩) (2*C.length+1) cF,.slice (some ⟨gT,0,none⟩) (2*C.length+1) cT] 49 (0,0)):=(hb3.block _ (by simp)).trans (alloc_at rfl)
 have hs3:w2.heap.size+1<=w3.heap.size:=by have:=hb3.size;simpa using this
 have HR3:=hidB hR
 have c0:=QQ0 (i:=0) hR rfl
 have c1:=QQ0 (i:=1) hR rfl
 have c2:=QQ0 (i:=2) hR rfl
 have c3:=QQ0 (i:=3) hR rfl
 have f0:=QQ1 (i:=0) hR
 have f1:=QQ1 (i:=1) hR
 have f2:=QQ1 (i:=2) hR
 have f3:=QQ1 (i:=3) hR
 have d0:w3.cell? ⟨w2.heap.size,0,none⟩=some (.slice a C.length cap):=QQ0 hQ rfl
 have d1:w3.cell? ⟨w2.heap.size,1,none⟩=some (.int .i64 loops):=QQ0 hQ rfl
 have d2:w3.cell? ⟨w2.heap.size,2,none⟩=some (.slice (some ⟨gF,0,none⟩) (2*C.length+1) cF):=QQ0 hQ rfl
 have d3:w3.cell? ⟨w2.heap.size,3,none⟩=some (.slice (some ⟨gT,0,none⟩) (2*C.length+1) cT):=QQ0 hQ rfl
 have l2:w.heap.size+1<w3.heap.size:=by omega
 have l3:w2.heap.size<w3.heap.size:=by omega
 clear hb3 hR hQ
 go_wp2
 have hG:=QQ5 w3 (w.heap.size+1) (.slice none 0 0) (.int .i64 0) (.slice none 0 0) (.slice none 0 0)
 have hX:=QX7 (a:=.slice none 0 0) (b:=.int .i64 0) (c:=.slice none 0 0) (d:=.slice none 0 0) HR3.out
 have x0:=QQ0 (i:=0) (v:=.slice none 0 0) hX rfl
 have x1:=QQ0 (i:=1) (v:=.int .i64 0) hX rfl
 have x2:=QQ0 (i:=2) (v:=.slice none 0 0) hX rfl
 have x3:=QQ0 (i:=3) (v:=.slice none 0 0) hX rfl
 have hbb:=HB3.out.grown hG HB3.out.size (fun k hk=>by have:=Option.some.inj hk;omega)
 unfold st4 at x0 x1 x2 x3
 exact bodyPost_ret (v:=.tuple #[.agg #[.slice none 0 0,.int .i64 0,.slice none 0 0,.slice none 0 0],.int .i64 5]) (by simp[results,Tryz.results26,go_sem,x0,x1,x2,x3]) rfl ⟨rfl,hbb⟩
theorem XZ8 (hFR : QQ8) (a : Option Addr) (cap : Nat) (C : List Cr) (loops : Int) (w : World) (hm : QQ6 C loops = true) (hp : QX6 C = true) (h : Crs w w.heap.size (.slice a C.length cap) C) :
    Calls Tryz.prog 26 #[.agg #[.slice a C.length cap,.int .i64 loops]] w fun e w'=>∃ gF cF gT cT,e=.returned (.tuple #[drV a cap C loops gF cF gT cT,.int .i64 0])/\(Dr w' a cap C gF gT/\w.heap.size<=gF/\w.heap.size<=gT)/\Below w.heap.size w w':=by
 have HC:=hidB h
 have HFA:Hid QQ8:=hFR
 have HM:=hidB hm
 have HP:=hidB hp
 have HB1:Hid (Below w.heap.size w ((w.alloc (.cells #[.slice a C.length cap,.int .i64 loops] 24)).alloc (.cells #[.slice none 0 0,.int .i64 0,.slice none 0 0,.slice none 0 0] 49))):=QW3 _ _ _
 go_enter Tryz.func26,Tryz.ntmps26
 go_wp2_with (go_at_call 44;refine(ZX2 _ C loops _ (HC.out.up HB1.out)).mono ?_;rw[hm];rintro e9 w2 ⟨d,rfl,hb2,hd⟩;obtain⟨gF,cF,gT,cT,rfl,hdr,hF,hT⟩:=hd.dr2 HM.out hb2 (HC.out.up HB1.out);refine Hid.out ?_)
 refine Lib.hid ?_
 have HDR:=hidB hdr
 have HF:Hid (w2.ownsRow (w.heap.size+2) 129 2 (.slice (some ⟨gF,0,none⟩) (2*C.length+1) cF) (2*C.length+1) (flat (ends C false C.length 0))):=QZ7 hF (by simp)
 have HT:Hid (w2.ownsRow (w.heap.size+2) 129 2 (.slice (some ⟨gT,0,none⟩) (2*C.length+1) cT) (2*C.length+1) (flat (ends C true C.length 0))):=QZ7 hT (by simp)
 unfold drV
 have HB2:Hid (Below w.heap.size w w2):=HB1.out.trans (hb2.mono (by simp;omega))
 have hR:w2.heap[w.heap.size+1]?=some (.cells #[.slice none 0 0,.int .i64 0,.slice none 0 0,.slice none 0 0] 49 (0,0)):=(hb2.block _ (by simp)).trans (alloc_at (by simp))
 have hs2:w.heap.size+2<=w2.heap.size:=by have:=hb2.size;simpa using this
 have HR:=hidB hR
 have HBA:Hid (Below w2.heap.size w2 (w2.alloc (.cells #[.slice a C.length cap,.int .i64 loops,.slice (some ⟨gF,0,none⟩) (2*C.length+1) cF,.slice (some ⟨gT,0,none⟩) (2*C.length+1) cT] 49))):=(Below.refl _ _).alloc (Nat.le_refl _) _
 clear hb2 hd hdr hm hR hp hF hT
 go_wp2_with (go_at_call 51;refine(Qd6 HFA.out a cap C loops gF cF gT cT _ HM.out (HDR.out.on HBA.out)).mono ?_;rw[HP.out];rintro e9 w3 ⟨rfl,hb3⟩;refine Hid.out ?_)
 refine Lib.hid ?_
 have HB23:=hidB (HBA.out.trans (hb3.mono (by simp)))
 have HB3:=hidB (HB2.out.trans (HB23.out.mono HB2.out.size))
 have hR:w3.heap[w.heap.size+1]?=some (.cells #[.slice none 0 0,.int .i64 0,.slice none 0 0,.slice none 0 0] 49 (0,0)):=(HB23.out.block _ (by omega)).trans HR.out
 have hQ:w3.heap[w2.heap.size]?=some (.cells #[.slice a C.length cap,.int .i64 loops,.slice (some ⟨gF,0,none⟩) (2*C.length+1) cF,.slice (some ⟨gT,0,none⟩) (2*C.length+1) cT] 49 (0,0)):=(hb3.block _ (by simp)).trans (alloc_at rfl)
 have hs3:w2.heap.size+1<=w3.heap.size:=by have:=hb3.size;simpa using this
 have HR3:=hidB hR
 have c0:=QQ0 (i:=0) hR rfl
 have c1:=QQ0 (i:=1) hR rfl
 have c2:=QQ0 (i:=2) hR rfl
 have c3:=QQ0 (i:=3) hR rfl
 have f0:=QQ1 (i:=0) hR
 have f1:=QQ1 (i:=1) hR
 have f2:=QQ1 (i:=2) hR
 have f3:=QQ1 (i:=3) hR
 have d0:=QQ0 (i:=0) hQ rfl
 have d1:=QQ0 (i:=1) hQ rfl
 have d2:=QQ0 (i:=2) hQ rfl
 have d3:=QQ0 (i:=3) hQ rfl
 have l2:w.heap.size+1<w3.heap.size:=by omega
 have l3:w2.heap.size<w3.heap.size:=by omega
 clear hb3 hR hQ
 go_wp2
 have hG:=QQ5 w3 (w.heap.size+1) (.slice a C.length cap) (.int .i64 loops) (.slice (some ⟨gF,0,none⟩) (2*C.length+1) cF) (.slice (some ⟨gT,0,none⟩) (2*C.length+1) cT)
 have hX:=QX7 (a:=.slice a C.length cap) (b:=.int .i64 loops) (c:=.slice (some ⟨gF,0,none⟩) (2*C.length+1) cF) (d:=.slice (some ⟨gT,0,none⟩) (2*C.length+1) cT) HR3.out
 have x0:=QQ0 (i:=0) (v:=.slice a C.length cap) hX rfl
 have x1:=QQ0 (i:=1) (v:=.int .i64 loops) hX rfl
 have x2:=QQ0 (i:=2) (v:=.slice (some ⟨gF,0,none⟩) (2*C.length+1) cF) hX rfl
 have x3:=QQ0 (i:=3) (v:=.slice (some ⟨gT,0,none⟩) (2*C.length+1) cT) hX rfl
 have hbb:=HB3.out.grown hG HB3.out.size (fun k hk=>by have:=Option.some.inj hk;omega)
 unfold st4 at x0 x1 x2 x3
 refine bodyPost_ret (v:=.tuple #[.agg #[.slice a C.length cap,.int .i64 loops,.slice (some ⟨gF,0,none⟩) (2*C.length+1) cF,.slice (some ⟨gT,0,none⟩) (2*C.length+1) cT],.int .i64 0]) (by simp[results,Tryz.results26,go_sem,x0,x1,x2,x3]) rfl ⟨gF,cF,gT,cT,rfl,⟨?_,by have h1:=(HF.out.lt gF rfl).1;omega,by have h1:=(HT.out.lt gT rfl).1;omega⟩,hbb⟩
 have hn:=grown_below HB23.out none
 have gF2:=(own_any HF.out hn).kept hG (Or.inr (fun e=>by have h1:=(HF.out.lt gF rfl).1;have h2:gF=w.heap.size+1:=Option.some.inj e;omega))
 have gT2:=(own_any HT.out hn).kept hG (Or.inr (fun e=>by have h1:=(HT.out.lt gT rfl).1;have h2:gT=w.heap.size+1:=Option.some.inj e;omega))
 exact⟨HC.out.up hbb,(gF2.lt gF rfl).2,(gT2.lt gT rfl).2,QG3 gF2 (QZ3 _ _ _ _),QG3 gT2 (QZ3 _ _ _ _)⟩
theorem XH0 (hFR : QQ8) (v : Value) (C : List Cr) (loops : Int) (w : World) (hm : QQ6 C loops = true) (hp : QX6 C = true) (h : Crs w w.heap.size v C) :
    Calls Tryz.prog 26 #[.agg #[v,.int .i64 loops]] w fun e w'=>∃ a cap gF cF gT cT,e=.returned (.tuple #[drV a cap C loops gF cF gT cT,.int .i64 0])/\Dr w' a cap C gF gT/\Below w.heap.size w w':=by
 obtain⟨a,cap,rfl,-,-⟩:=id h
 exact(XZ8 hFR a cap C loops w hm hp h).mono fun e w' ⟨gF,cF,gT,cT,he,hd,hb⟩=>⟨a,cap,gF,cF,gT,cT,he,hd.1,hb⟩
theorem QU7 {C:List Cr} {loops:Int} (h:noN C loops=0):QQ6 C loops=true/\QX6 C=true:=by
 unfold noN at h
 by_cases hm:QQ6 C loops=true
 · rw[if_pos hm]at h
   by_cases hp:QX6 C=true
   · exact⟨hm,hp⟩
   · rw[if_neg hp]at h;omega
 · rw[if_neg hm]at h;omega
theorem KD5 (hFR : QQ8) (a : Option Addr) (cap : Nat) (C : List Cr) (loops : Int) (W : World) (hn : noN C loops ≠ 0) (hW : Crs W W.heap.size (.slice a C.length cap) C) :
    Calls Tryz.prog 26 #[.agg #[.slice a C.length cap,.int .i64 loops]] W fun e w'=>e=.returned (.tuple #[QX0,.int .i64 (noN C loops)])/\Below W.heap.size W w':=by
 unfold noN at hn ⊢
 cases hm:QQ6 C loops with
 |false=>exact Kd1 _ C loops W hm hW
 |true=>
  cases hp:QX6 C with
  |false=>exact KD6 hFR _ C loops W hm hp hW
  |true=>rw[hm,hp]at hn;exact absurd rfl hn
end Go.Proofs.YtookanmeflbdlaaGreatDoor
/- drawing.Single: a drawing on a sphere, of one piece and without loops. -/
namespace Go.Proofs.YtookanmeflbdlaaGreatDoor
open Go.RowKit
set_option maxHeartbeats 4000000
set_option maxRecDepth 100000
def ZY2 (C:List Cr) (loops:Int):Bool:=(decide (0<C.length)&&(List.range C.length).all fun v=>decide ((QW6 C).getD v 0=0))&&decide (loops=0)
theorem Ky2 {C:List Cr} {loops:Int} (hm:QQ6 C loops=true) {P:List Int} {c:Nat} (hP:PcsAll C P c):c=1↔(0<C.length/\∀ v,v<C.length->(QW6 C).getD v 0=0):=by
 have hW:Least (QV5 C) C.length (QW6 C):=QU6 (XG0 hm) _ (Nat.le_refl _)
 constructor
 · intro h
   subst h
   obtain⟨v0,h0,-⟩:=hP.used 0 (by omega)
   have hp:0<C.length:=by omega
   refine⟨hp,fun v hv=>?_⟩
   have a:=hP.vals v hv
   have b:=hP.vals 0 hp
   have e:P.getD v 0=P.getD 0 0:=by omega
   have hc:=(hP.same v 0 hv hp).1 e
   have:=(hW.2 v hv).2 0 hc
   omega
 · rintro⟨hp,h⟩
   have b:=hP.vals 0 hp
   refine Classical.byContradiction fun hne=>?_
   have hc:2<=c:=by omega
   obtain⟨u,hu,eu⟩:=hP.used 0 (by omega)
   obtain⟨v,hv,ev⟩:=hP.used 1 (by omega)
   have e:=(hP.same u v hu hv).2 ((hW.same hu hv).1 (by rw[h u hu,h v hv]))
   rw[eu,ev]at e
   omega
def Xv1 (C:List Cr) (loops:Int) (ob:Bool) (w:World) (e:Ending) (w':World):Prop:=
 (match ob with|true=>∃ a cap gF cF gT cT,e=.returned (.tuple #[drV a cap C loops gF cF gT cT,.int .i64 0])/\Dr w' a cap C gF gT|false=>e=.returned (.tuple #[QX0,.int .i64 6]))/\Below w.heap.size w w'
theorem Xf7 (hFR : QQ8) (v : Value) (C : List Cr) (loops : Int) (w : World) (hn : noN C loops = 0) (h : Crs w w.heap.size v C) :
    Calls Tryz.prog 54 #[.agg #[v,.int .i64 loops]] w (Xv1 C loops (ZY2 C loops) w):=by
 have HC:=hidB h
 obtain⟨hm,hp⟩:=QU7 hn
 have HM:=hidB hm
 have HP:=hidB hp
 have HFA:Hid QQ8:=hFR
 obtain⟨s1,s2,s3,s4⟩:=QX5 (QZ6 hm)
 obtain⟨a,cap,rfl,-,-⟩:=h
 have HO:Hid (∀ P c,PcsAll C P c->ZY2 C loops=(decide (c=1)&&decide (loops=0))):=fun P c hP=>by
  unfold ZY2
  congr 1
  have h1:=Ky2 hm hP
  rw[Bool.eq_iff_iff,Bool.and_eq_true,decide_eq_true_eq,decide_eq_true_eq,List.all_eq_true,h1]
  simp only[List.mem_range,decide_eq_true_eq]
 obtain⟨ob,hob⟩:∃ ob,ZY2 C loops=ob:=⟨_,rfl⟩
 rw[hob]at HO ⊢
 clear hob
 have HB1:Hid (Below w.heap.size w ((w.alloc (.cells #[.slice a C.length cap,.int .i64 loops] 24)).alloc (.cells #[.slice none 0 0,.int .i64 0,.slice none 0 0,.slice none 0 0] 49))):=QW3 _ _ _
 clear hm hp hn hFR
 go_enter Tryz.func54,Tryz.ntmps54
 go_wp2_with (go_at_call 26;refine(XZ8 HFA.out a cap C loops _ HM.out HP.out (HC.out.up HB1.out)).mono ?_;rintro e9 w2 ⟨gF,cF,gT,cT,rfl,⟨hdr,hgF,hgT⟩,hb2⟩;refine Hid.out ?_)
 refine Lib.hid ?_
 have HDR:=hidB hdr
 unfold drV
 have HB2:Hid (Below w.heap.size w w2):=HB1.out.trans (hb2.mono (by simp;omega))
 have HR:Hid (w2.heap[w.heap.size+1]?=some (.cells #[.slice none 0 0,.int .i64 0,.slice none 0 0,.slice none 0 0] 49 (0,0))):=(hb2.block _ (by simp)).trans (alloc_at (by simp))
 have hs2:w.heap.size+2<=w2.heap.size:=by have:=hb2.size;simpa using this
 have hgF2:w.heap.size+2<=gF:=by have:=hgF;simp at this;omega
 have HGF:=hidB hgF2
 have hgT2:w.heap.size+2<=gT:=by have:=hgT;simp at this;omega
 have HGT:=hidB hgT2
 have HBA:Hid (Below w2.heap.size w2 (w2.alloc (.cells #[.slice a C.length cap,.int .i64 loops,.slice (some ⟨gF,0,none⟩) (2*C.length+1) cF,.slice (some ⟨gT,0,none⟩) (2*C.length+1) cT] 49))):=(Below.refl _ _).alloc (Nat.le_refl _) _
 clear hb2 hdr hgF hgT hgF2 hgT2
 go_wp2_with (go_at_call 74;refine(XY6 a cap C loops gF cF gT cT _ HM.out (HDR.out.on HBA.out)).mono ?_;rintro e9 w3 ⟨gP,cP,P,c,rfl,-,hpc,hb3⟩;refine Hid.out ?_)
 refine Lib.hid ?_
 have HOB:=hidB (HO.out P c hpc)
 have HB3:=hidB (HBA.out.trans (hb3.mono (by simp)))
 have HQ:=hidB ((hb3.block _ (by simp)).trans (alloc_at rfl))
 have hs3:w2.heap.size+1<=w3.heap.size:=by have:=hb3.size;simpa using this
 have HK:Hid (∀ w',Below w3.heap.size w3 w'->w'.cell? ⟨w2.heap.size,0,none⟩=some (.slice a C.length cap)/\w'.cell? ⟨w2.heap.size,1,none⟩=some (.int .i64 loops)/\w'.cell? ⟨w2.heap.size,2,none⟩=some (.slice (some ⟨gF,0,none⟩) (2*C.length+1) cF)/\w'.cell? ⟨w2.heap.size,3,none⟩=some (.slice (some ⟨gT,0,none⟩) (2*C.length+1) cT)):=fun w' hb=>by
  have g:=(hb.block _ (by omega)).trans HQ.out
  exact⟨QQ0 g rfl,QQ0 g rfl,QQ0 g rfl,QQ0 g rfl⟩
 have HDK:Hid (∀ w',Below w3.heap.size w3 w'->Dr w' a cap C gF gT):=fun w' hb=>(HDR.out.on HB3.out).on hb
 have HBW:=hidB (HB2.out.trans (HB3.out.mono HB2.out.size))
 have hR:w3.heap[w.heap.size+1]?=some (.cells #[.slice none 0 0,.int .i64 0,.slice none 0 0,.slice none 0 0] 49 (0,0)):=(HB3.out.block _ (by omega)).trans HR.out
 have HR3:=hidB hR
 have c0:=QQ0 (i:=0) hR rfl
 have c1:=QQ0 (i:=1) hR rfl
 have c2:=QQ0 (i:=2) hR rfl
 have c3:=QQ0 (i:=3) hR rfl
 have f0:=QQ1 (i:=0) hR
 have f1:=QQ1 (i:=1) hR
 have f2:=QQ1 (i:=2) hR
 have f3:=QQ1 (i:=3) hR
 have l2:w.heap.size+1<w3.heap.size:=by omega
 have l3:w2.heap.size<w3.heap.size:=by omega
 clear hR
 clear hb3 hpc HO
 obtain⟨t0,t1,t2,t3⟩:=HK.out w3 (Below.refl _ _)
 by_cases hc1:c=1
 · subst hc1
   by_cases hl:loops=0
   · subst hl
     obtain rfl:ob=true:=HOB.out
     go_wp2
     have hG:=QQ5 w3 (w.heap.size+1) (.slice a C.length cap) (.int .i64 0) (.slice (some ⟨gF,0,none⟩) (2*C.length+1) cF) (.slice (some ⟨gT,0,none⟩) (2*C.length+1) cT)
     have hX:=QX7 (a:=.slice a C.length cap) (b:=.int .i64 0) (c:=.slice (some ⟨gF,0,none⟩) (2*C.length+1) cF) (d:=.slice (some ⟨gT,0,none⟩) (2*C.length+1) cT) HR3.out
     have x0:=QQ0 (i:=0) (v:=.slice a C.length cap) hX rfl
     have x1:=QQ0 (i:=1) (v:=.int .i64 0) hX rfl
     have x2:=QQ0 (i:=2) (v:=.slice (some ⟨gF,0,none⟩) (2*C.length+1) cF) hX rfl
     have x3:=QQ0 (i:=3) (v:=.slice (some ⟨gT,0,none⟩) (2*C.length+1) cT) hX rfl
     have hbb:=HBW.out.grown hG HBW.out.size (fun k hk=>by have:=Option.some.inj hk;omega)
     unfold st4 at x0 x1 x2 x3
     refine bodyPost_ret (v:=.tuple #[.agg #[.slice a C.length cap,.int .i64 0,.slice (some ⟨gF,0,none⟩) (2*C.length+1) cF,.slice (some ⟨gT,0,none⟩) (2*C.length+1) cT],.int .i64 0]) (by simp[results,Tryz.results54,go_sem,x0,x1,x2,x3]) rfl ⟨⟨a,cap,gF,cF,gT,cT,rfl,?_⟩,hbb⟩
     have D3:=HDK.out w3 (Below.refl _ _)
     have nF:gF≠w.heap.size+1:=by have:=HGF.out;omega
     have nT:gT≠w.heap.size+1:=by have:=HGT.out;omega
     exact⟨HC.out.up hbb,Nat.lt_of_lt_of_le D3.ltF hG.size,Nat.lt_of_lt_of_le D3.ltT hG.size,fun i hi=>⟨Qx3 nF (D3.from_ i hi).1,Qx3 nF (D3.from_ i hi).2⟩,fun i hi=>⟨Qx3 nT (D3.to i hi).1,Qx3 nT (D3.to i hi).2⟩⟩
   · have hl2:decide (0<loops)=true:=by simp;omega
     obtain rfl:ob=false:=by rw[HOB.out,decide_eq_false hl];simp
     go_wp2
     have hG:=QQ5 w3 (w.heap.size+1) (.slice none 0 0) (.int .i64 0) (.slice none 0 0) (.slice none 0 0)
     have hX:=QX7 (a:=.slice none 0 0) (b:=.int .i64 0) (c:=.slice none 0 0) (d:=.slice none 0 0) HR3.out
     have x0:=QQ0 (i:=0) (v:=.slice none 0 0) hX rfl
     have x1:=QQ0 (i:=1) (v:=.int .i64 0) hX rfl
     have x2:=QQ0 (i:=2) (v:=.slice none 0 0) hX rfl
     have x3:=QQ0 (i:=3) (v:=.slice none 0 0) hX rfl
     have hbb:=HBW.out.grown hG HBW.out.size (fun k hk=>by have:=Option.some.inj hk;omega)
     unfold st4 at x0 x1 x2 x3
     exact bodyPost_ret (v:=.tuple #[.agg #[.slice none 0 0,.int .i64 0,.slice none 0 0,.slice none 0 0],.int .i64 6]) (by simp[results,Tryz.results54,go_sem,x0,x1,x2,x3]) rfl ⟨rfl,hbb⟩
 · have hc2:((c:Int)==1)=false:=beq_eq_false_iff_ne.2 (by omega)
   obtain rfl:ob=false:=by rw[HOB.out,decide_eq_false hc1];rfl
   go_wp2
   have hG:=QQ5 w3 (w.heap.size+1) (.slice none 0 0) (.int .i64 0) (.slice none 0 0) (.slice none 0 0)
   have hX:=QX7 (a:=.slice none 0 0) (b:=.int .i64 0) (c:=.slice none 0 0) (d:=.slice none 0 0) HR3.out
   have x0:=QQ0 (i:=0) (v:=.slice none 0 0) hX rfl
   have x1:=QQ0 (i:=1) (v:=.int .i64 0) hX rfl
   have x2:=QQ0 (i:=2) (v:=.slice none 0 0) hX rfl
   have x3:=QQ0 (i:=3) (v:=.slice none 0 0) hX rfl
   have hbb:=HBW.out.grown hG HBW.out.size (fun k hk=>by have:=Option.some.inj hk;omega)
   unfold st4 at x0 x1 x2 x3
   exact bodyPost_ret (v:=.tuple #[.agg #[.slice none 0 0,.int .i64 0,.slice none 0 0,.slice none 0 0],.int .i64 6]) (by simp[results,Tryz.results54,go_sem,x0,x1,x2,x3]) rfl ⟨rfl,hbb⟩
end Go.Proofs.YtookanmeflbdlaaGreatDoor
/- The walks of colour.lowestArcs and colour.overpasses. -/
namespace Go.Proofs.YtookanmeflbdlaaGreatDoor
open Go.RowKit
set_option maxHeartbeats 16000000
set_option maxRecDepth 100000
theorem Kb0 (V:List Nat) (C:List Cr) (i:Nat) (hi:i<C.length):QC0 V ((ovE C).take (i+1))=mer (QC0 V ((ovE C).take i)) (C.getD i Cr.none).b.toNat (C.getD i Cr.none).d.toNat:=by
 rw[KY4 C i hi,ZV7]
 rfl
theorem XW6 (a : Option Addr) (cap : Nat) (C : List Cr) (loops : Int) (gF cF gT cT : Nat) (w : World) (hm : QQ6 C loops = true) (hD : Dr w a cap C gF gT) :
    Calls Tryz.prog 52 #[drV a cap C loops gF cF gT cT] w fun e w'=>∃ g,e=.returned (.slice (some ⟨g,0,none⟩) (2*C.length+1) (2*C.length+1))/\w'.ownsRow w.heap.size 3 1 (.slice (some ⟨g,0,none⟩) (2*C.length+1) (2*C.length+1)) (2*C.length+1) (QJ7 (QJ6 C))/\Below w.heap.size w w':=by
 obtain⟨s1,-,-,-⟩:=QX5 (QZ6 hm)
 obtain⟨i2,hk,hx0,hx1,hx2⟩:=info_parts Qy0
 have HM:=hidB hm
 have HD:=hidB hD
 unfold drV
 obtain⟨N,hN⟩:∃ N,N=2*C.length+1:=⟨_,rfl⟩
 have HN:=hidB hN
 have hN1:1<=N:=by omega
 have hN2:N<=33:=by omega
 rw[<-hN]
 clear hN hm hD
 obtain⟨w0,hw0⟩:∃ w0,w0=w.alloc (.cells #[.slice a C.length cap,.int .i64 loops,.slice (some ⟨gF,0,none⟩) N cF,.slice (some ⟨gT,0,none⟩) N cT] 49):=⟨_,rfl⟩
 have HW0:=hidB hw0
 have hs0:w0.heap.size=w.heap.size+1:=by rw[hw0];simp
 have HB0:=hidB (show Below w.heap.size w w0 by rw[hw0];exact(Below.refl _ _).alloc (Nat.le_refl _) _)
 have HT0:=hidB (show w0.heap[w.heap.size]?=some (.cells #[.slice a C.length cap,.int .i64 loops,.slice (some ⟨gF,0,none⟩) N cF,.slice (some ⟨gT,0,none⟩) N cT] 49 (0,0)) by rw[hw0];exact alloc_at rfl)
 clear hw0
 go_enter Tryz.func52,Tryz.ntmps52
 go_wp2_with (first|(at_make;refine wpList_make_full _ rfl _ _ 67 rfl (w.heap.size+1) 3 i2 (.int .i64 0) 1 Tryz.underlying67 hk hx0 hx1 .i64 .i64 _ _ N rfl rfl rfl rfl (by rw[hx2];omega) (by unfold maxLen;omega) (by simp) ?_;intro w1 hrow hg1;refine Hid.out ?_))
 refine Lib.hid ?_
 rw[<-HW0.out]at hrow hg1
 rw[XY9,hs0,ZH0]at hrow
 have HP0:Hid (w1.heap[w.heap.size]?=some (.cells #[.slice a C.length cap,.int .i64 loops,.slice (some ⟨gF,0,none⟩) N cF,.slice (some ⟨gT,0,none⟩) N cT] 49 (0,0))/\w1.ownsRow (w.heap.size+1) 3 1 (.slice (some ⟨w.heap.size+1,0,none⟩) N N) N (QJ7 (Qz3 N 0))/\Below w.heap.size w w1):=⟨(hg1.block _ (by omega) (by simp)).trans HT0.out,hrow,HB0.out.grown hg1 (by omega) (fun k hk=>by cases hk)⟩
 clear hrow hg1 HT0 HB0 hs0 HW0
 go_wp2
 go_loopw [16] (fun v5 wr=>∃ i:Nat,i<=N/\v5=.int .i64 (i:Nat)/\Hid (wr.heap[w.heap.size]?=some (.cells #[.slice a C.length cap,.int .i64 loops,.slice (some ⟨gF,0,none⟩) N cF,.slice (some ⟨gT,0,none⟩) N cT] 49 (0,0))/\wr.ownsRow (w.heap.size+1) 3 1 (.slice (some ⟨w.heap.size+1,0,none⟩) N N) N (QJ7 (Qz3 N i))/\Below w.heap.size w wr)) (fun v5 _=>N-(intOf v5).toNat)
 case atStart=>exact⟨0,Nat.zero_le _,rfl,HP0.out⟩
 case round=>
  clear HP0
  rename World=>W1
  obtain⟨i,hin,rfl,hp⟩:=hrel
  have hlt:=hp.out.2.1.lt (w.heap.size+1) rfl
  by_cases hil:i<N
  · have hst:=hp.out.2.1.stored i (.int .i64 (i:Nat))
    rw[Qg2,ZH1]at hst
    have HST:Hid ((W1.setCell ⟨w.heap.size+1,i,none⟩ (.int .i64 (i:Nat))).heap[w.heap.size]?=some (.cells #[.slice a C.length cap,.int .i64 loops,.slice (some ⟨gF,0,none⟩) N cF,.slice (some ⟨gT,0,none⟩) N cT] 49 (0,0))/\(W1.setCell ⟨w.heap.size+1,i,none⟩ (.int .i64 (i:Nat))).ownsRow (w.heap.size+1) 3 1 (.slice (some ⟨w.heap.size+1,0,none⟩) N N) N (QJ7 (Qz3 N (i+1)))/\Below w.heap.size w (W1.setCell ⟨w.heap.size+1,i,none⟩ (.int .i64 (i:Nat)))):=⟨(hst.2.block _ (by omega) (fun e=>by have:w.heap.size=w.heap.size+1:=Option.some.inj e;omega)).trans hp.out.1,hst.1,hp.out.2.2.grown hst.2 hp.out.2.2.size (fun q hq=>by have:=Option.some.inj hq;omega)⟩
    have e0:W1.cell? ⟨w.heap.size+1,i,none⟩=some (.int .i64 ((Qz3 N i).getD i 0:Nat)):=by
     rw[hp.out.2.1.cellAt i (by omega)];exact QV0 _ i (by simp[Qz3];omega)
    have z0:W1.frozen? ⟨w.heap.size+1,i,none⟩=false:=hp.out.2.1.frozenAt i
    have hdi:(i:Int)<=2*(C.length:Int):=by have:=HN.out;omega
    clear hst
    go_wp2
    go_roundw
    case rel=>exact⟨i+1,by omega,by go_num,HST.out⟩
    case measure=>simp only[intOf];omega
  · obtain rfl:N=i:=by omega
    have HP1:=hidB (show W1.heap[w.heap.size]?=some (.cells #[.slice a C.length cap,.int .i64 loops,.slice (some ⟨gF,0,none⟩) N cF,.slice (some ⟨gT,0,none⟩) N cT] 49 (0,0))/\W1.ownsRow (w.heap.size+1) 3 1 (.slice (some ⟨w.heap.size+1,0,none⟩) N N) N (QJ7 (QC0 (List.range N) ((ovE C).take 0)))/\Below w.heap.size w W1 by have h:=hp.out;rw[Zh1]at h;exact h)
    have t0:=QQ0 (i:=0) hp.out.1 rfl
    have hdn:decide ((N:Int)<(N:Int))=false:=by simp
    have hdn2:decide (N<N)=false:=by simp
    clear hp
    go_wp2
    go_loopw [28] (fun v28 wr=>∃ k:Nat,k<=C.length/\v28=.int .i64 (k:Nat)/\Hid (wr.heap[w.heap.size]?=some (.cells #[.slice a C.length cap,.int .i64 loops,.slice (some ⟨gF,0,none⟩) N cF,.slice (some ⟨gT,0,none⟩) N cT] 49 (0,0))/\wr.ownsRow (w.heap.size+1) 3 1 (.slice (some ⟨w.heap.size+1,0,none⟩) N N) N (QJ7 (QC0 (List.range N) ((ovE C).take k)))/\Below w.heap.size w wr)) (fun v28 _=>C.length-(intOf v28).toNat)
    case atStart=>exact⟨0,Nat.zero_le _,rfl,HP1.out⟩
    case round=>
     clear HP1 t0
     rename World=>W2
     obtain⟨k,hin2,rfl,hp⟩:=hrel
     by_cases hil2:k<C.length
     · obtain⟨b,off,ea,hbw,hC⟩:=HD.out.cross (by omega)
       have t0:=QQ0 (i:=0) hp.out.1 rfl
       have ff:=QK9 HM.out k 1 hil2 (by omega)
       have fg:=QK9 HM.out k 3 hil2 (by omega)
       have HX:Hid ((C.getD k Cr.none).arc 1=(C.getD k Cr.none).b/\(C.getD k Cr.none).arc 3=(C.getD k Cr.none).d):=⟨rfl,rfl⟩
       have f1:=ff.1
       have f2:=ff.2.1
       have f3:=fg.1
       have f4:=fg.2.1
       rw[HX.out.1]at f1 f2
       rw[HX.out.2]at f3 f4
       obtain⟨e0,e1,e2,e3,e4⟩:=(hC.on hp.out.2.2 hbw) k hil2
       obtain⟨x,hx⟩:∃ x:Nat,(C.getD k Cr.none).b=(x:Int):=⟨(C.getD k Cr.none).b.toNat,by omega⟩
       obtain⟨y,hy⟩:∃ y:Nat,(C.getD k Cr.none).d=(y:Int):=⟨(C.getD k Cr.none).d.toNat,by omega⟩
       have hxN:x<N:=by have:=HN.out;omega
       have hyN:y<N:=by have:=HN.out;omega
       obtain⟨ca,hca⟩:∃ z,(C.getD k Cr.none).a=z:=⟨_,rfl⟩
       obtain⟨cc,hcc⟩:∃ z,(C.getD k Cr.none).c=z:=⟨_,rfl⟩
       obtain⟨cp,hcp⟩:∃ z,(C.getD k Cr.none).plus=z:=⟨_,rfl⟩
       have HLV:=hidB (show QC0 (List.range N) ((ovE C).take (k+1))=mer (QC0 (List.range N) ((ovE C).take k)) x y by rw[Kb0 _ C k hil2,hx,hy];rfl)
       have HLL:=hidB (show(QC0 (List.range N) ((ovE C).take k)).length=N by rw[KY5];simp)
       rw[hca]at e0
       rw[hx]at e1
       rw[hcc]at e2
       rw[hy]at e3
       rw[hcp]at e4
       obtain⟨L,hL⟩:∃ L,QC0 (List.range N) ((ovE C).take k)=L:=⟨_,rfl⟩
       rw[hL]at HLV HLL hp
       have hsW:=hp.out.2.2.size
       have hgl:=(hp.out.2.1.lt (w.heap.size+1) rfl).2
       have hbW:b<W2.heap.size:=by omega
       have hii:(k:Int)<(C.length:Int):=by omega
       have d0:W2.cell? ⟨w.heap.size+1,x,none⟩=some (.int .i64 (L.getD x 0:Nat)):=by
        rw[hp.out.2.1.cellAt x (by omega)];exact QV0 _ x (by rw[HLL.out];exact hxN)
       have d1:W2.cell? ⟨w.heap.size+1,y,none⟩=some (.int .i64 (L.getD y 0:Nat)):=by
        rw[hp.out.2.1.cellAt y (by omega)];exact QV0 _ y (by rw[HLL.out];exact hyN)
       obtain⟨p,hpx⟩:∃ p,L.getD x 0=p:=⟨_,rfl⟩
       obtain⟨q,hqx⟩:∃ q,L.getD y 0=q:=⟨_,rfl⟩
       rw[hpx]at d0
       rw[hqx]at d1
       have HPQ:Hid (L.getD x 0=p/\L.getD y 0=q):=⟨hpx,hqx⟩
       obtain⟨X,hX⟩:∃ X,X=(W2.alloc (.cells #[.int .i64 ca,.int .i64 (x:Nat),.int .i64 cc,.int .i64 (y:Nat),.bool cp] 63)):=⟨_,rfl⟩
       have HX0:=hidB hX
       have HGX:=hidB (show W2.grownBy X none by rw[hX];exact World.grownBy_alloc _ _ none)
       have hXs:X.heap.size=W2.heap.size+1:=by rw[hX];simp
       have HXB:=hidB (show X.heap[W2.heap.size]?=some (.cells #[.int .i64 ca,.int .i64 (x:Nat),.int .i64 cc,.int .i64 (y:Nat),.bool cp] 63 (0,0)) by rw[hX];exact alloc_at rfl)
       have HXR:Hid (X.heap[w.heap.size]?=some (.cells #[.slice a C.length cap,.int .i64 loops,.slice (some ⟨gF,0,none⟩) N cF,.slice (some ⟨gT,0,none⟩) N cT] 49 (0,0))/\X.ownsRow (w.heap.size+1) 3 1 (.slice (some ⟨w.heap.size+1,0,none⟩) N N) N (QJ7 (L))/\Below w.heap.size w X):=⟨(HGX.out.block _ (by omega) (by simp)).trans hp.out.1,own_any hp.out.2.1 HGX.out,hp.out.2.2.grown HGX.out hsW (fun z hz=>by cases hz)⟩
       clear hC ff fg f1 f2 f3 f4 hx hy hca hcc hcp hL hpx hqx hX
       go_wp2
       rw[<-HX0.out]
       have x1:=QQ0 (i:=1) HXB.out rfl
       have x3:=QQ0 (i:=3) HXB.out rfl
       have y0:X.cell? ⟨w.heap.size+1,x,none⟩=some (.int .i64 (p:Nat)):=(by rw[HXR.out.2.1.cellAt x (by omega),QV0 _ x (by rw[HLL.out];exact hxN),HPQ.out.1])
       have y1:X.cell? ⟨w.heap.size+1,y,none⟩=some (.int .i64 (q:Nat)):=(by rw[HXR.out.2.1.cellAt y (by omega),QV0 _ y (by rw[HLL.out];exact hyN),HPQ.out.2])
       clear d0 d1 e0 e1 e2 e3 e4
       obtain⟨lo,hlo⟩:∃ lo,min p q=lo:=⟨_,rfl⟩
       obtain⟨hi,hhi⟩:∃ hi,max p q=hi:=⟨_,rfl⟩
       have E1:(if q<p then(q:Int) else(p:Int))=(lo:Int):=by rw[<-hlo];split<;>omega
       have E2:(if p<q then(q:Int) else(p:Int))=(hi:Int):=by rw[<-hhi];split<;>omega
       have HLH:Hid (min p q=lo/\max p q=hi):=⟨hlo,hhi⟩
       clear hlo hhi
       apply XF8
       case h=>
        intro key
        go_region_held3 (fun w'=>w'.cell? ⟨W2.heap.size,1,none⟩=some (.int .i64 (x:Nat))/\w'.cell? ⟨W2.heap.size,3,none⟩=some (.int .i64 (y:Nat))/\w'.cell? ⟨w.heap.size+1,x,none⟩=some (.int .i64 (p:Nat))/\w'.cell? ⟨w.heap.size+1,y,none⟩=some (.int .i64 (q:Nat))) (exact⟨x1,x3,y0,y1⟩) (fail)
        all_goals
         exact key.out
       rw[<-ea]
       clear x1 x3 y0 y1 E1 E2 ea
       have HQ0:=hidB (show X.drew.heap[w.heap.size]?=some (.cells #[.slice a C.length cap,.int .i64 loops,.slice (some ⟨gF,0,none⟩) N cF,.slice (some ⟨gT,0,none⟩) N cT] 49 (0,0))/\X.drew.ownsRow (w.heap.size+1) 3 1 (.slice (some ⟨w.heap.size+1,0,none⟩) N N) N (QJ7 (Qj2 L x y 0))/\Below w.heap.size w X.drew by rw[ZG6];exact⟨HXR.out.1,own_any HXR.out.2.1 (grown_below ((Below.refl _ _).drew) none),HXR.out.2.2.drew⟩)
       have HME:Hid (∀ v,v<N->(mer L x y).getD v 0=if L.getD v 0=hi then lo else L.getD v 0):=fun v hv=>by rw[QA7 L x y v (by rw[HLL.out];exact hv),HPQ.out.1,HPQ.out.2,HLH.out.1,HLH.out.2]
       have hdk:decide ((k:Int)<(C.length:Int))=true:=by simp;omega
       have hdk2:decide (k<C.length)=true:=by simp;omega
       clear HXR HXB HGX HX0 HPQ HLH
       go_wp2
       go_loopw [56] (fun v56 wr=>∃ j:Nat,j<=N/\v56=.int .i64 (j:Nat)/\Hid (wr.heap[w.heap.size]?=some (.cells #[.slice a C.length cap,.int .i64 loops,.slice (some ⟨gF,0,none⟩) N cF,.slice (some ⟨gT,0,none⟩) N cT] 49 (0,0))/\wr.ownsRow (w.heap.size+1) 3 1 (.slice (some ⟨w.heap.size+1,0,none⟩) N N) N (QJ7 (Qj2 L x y j))/\Below w.heap.size w wr)) (fun v56 _=>N-(intOf v56).toNat)
       case atStart=>exact⟨0,Nat.zero_le _,rfl,HQ0.out⟩
       case round=>
        clear HQ0
        rename World=>W3
        obtain⟨j,hjn,rfl,hq⟩:=hrel
        have hg3:=(hq.out.2.1.lt (w.heap.size+1) rfl).2
        by_cases hjl:j<N
        · have f0 : W3.cell? ⟨w.heap.size + 1, j, none⟩ = some (.int .i64 (L.getD j 0 : Nat)) := by
            rw[hq.out.2.1.cellAt j (by omega),QV0 _ j (by rw[QW0,HLL.out];exact hjl),QA3 _ _ _ _ _ (by rw[HLL.out];exact hjl),if_neg (by omega)]
          obtain⟨z,hz⟩:∃ z,L.getD j 0=z:=⟨_,rfl⟩
          have HZ:=hidB hz
          rw[hz]at f0
          clear hz
          by_cases hzh:z=hi
          · subst hzh
            have hst:=hq.out.2.1.stored j (.int .i64 (lo:Nat))
            rw[Qg2,ZG8 L x y j lo (by rw[HLL.out];exact hjl) (by rw[HME.out j hjl,HZ.out,if_pos rfl])]at hst
            have HST:Hid ((W3.setCell ⟨w.heap.size+1,j,none⟩ (.int .i64 (lo:Nat))).heap[w.heap.size]?=some (.cells #[.slice a C.length cap,.int .i64 loops,.slice (some ⟨gF,0,none⟩) N cF,.slice (some ⟨gT,0,none⟩) N cT] 49 (0,0))/\(W3.setCell ⟨w.heap.size+1,j,none⟩ (.int .i64 (lo:Nat))).ownsRow (w.heap.size+1) 3 1 (.slice (some ⟨w.heap.size+1,0,none⟩) N N) N (QJ7 (Qj2 L x y (j+1)))/\Below w.heap.size w (W3.setCell ⟨w.heap.size+1,j,none⟩ (.int .i64 (lo:Nat)))):=⟨(hst.2.block _ (by omega) (fun e=>by have:w.heap.size=w.heap.size+1:=Option.some.inj e;omega)).trans hq.out.1,hst.1,hq.out.2.2.grown hst.2 hq.out.2.2.size (fun q hq=>by have:=Option.some.inj hq;omega)⟩
            have z0:W3.frozen? ⟨w.heap.size+1,j,none⟩=false:=hq.out.2.1.frozenAt j
            have hzz:((z:Int)==(z:Int))=true:=by simp
            clear hst
            go_wp2
            go_roundw
            case rel=>exact⟨j+1,by omega,by go_num,HST.out⟩
            case measure=>simp only[intOf];omega
          · have hzz:((z:Int)==(hi:Int))=false:=by simp;omega
            have hzz2:(z==hi)=false:=by simp;omega
            have HST:=hidB (show W3.heap[w.heap.size]?=some (.cells #[.slice a C.length cap,.int .i64 loops,.slice (some ⟨gF,0,none⟩) N cF,.slice (some ⟨gT,0,none⟩) N cT] 49 (0,0))/\W3.ownsRow (w.heap.size+1) 3 1 (.slice (some ⟨w.heap.size+1,0,none⟩) N N) N (QJ7 (Qj2 L x y (j+1)))/\Below w.heap.size w W3 by rw[<-ZG7 L x y j (by rw[HLL.out];exact hjl) (by rw[HME.out j hjl,HZ.out,if_neg hzh])];exact hq.out)
            go_wp2
            go_roundw
            case rel=>exact⟨j+1,by omega,by go_num,HST.out⟩
            case measure=>simp only[intOf];omega
        · obtain rfl:N=j:=by omega
          go_wp2
          go_roundw
          case rel=>exact⟨k+1,by omega,by go_num,(by have h:=hq.out;rw[<-HLL.out,Zg5,HLL.out]at h;rw[HLV.out];exact h:W3.heap[w.heap.size]?=some (.cells #[.slice a C.length cap,.int .i64 loops,.slice (some ⟨gF,0,none⟩) N cF,.slice (some ⟨gT,0,none⟩) N cT] 49 (0,0))/\W3.ownsRow (w.heap.size+1) 3 1 (.slice (some ⟨w.heap.size+1,0,none⟩) N N) N (QJ7 (QC0 (List.range N) ((ovE C).take (k+1))))/\Below w.heap.size w W3)⟩
          case measure=>simp only[intOf];omega
     · obtain rfl:k=C.length:=by omega
       go_wp2
       go_ret
       exact⟨_,rfl,(by have h:=hp.out.2.1;rw[Ky0]at h;have e:QJ6 C=QC0 (List.range N) (ovE C):=(by unfold QJ6;rw[HN.out]);rw[e];exact QZ7 h (by omega)),hp.out.2.2⟩
end Go.Proofs.YtookanmeflbdlaaGreatDoor
/- The walks of colour.overpasses and colour.Overs. -/
namespace Go.Proofs.YtookanmeflbdlaaGreatDoor
open Go.RowKit
set_option maxHeartbeats 16000000
set_option maxRecDepth 100000
def Qf1 (C:List Cr) (k:Nat):List Nat:=(List.range (2*C.length+1)).map fun v=>if v<k/\1<=v then ovM C v else 0
theorem QD6 (C:List Cr) (k:Nat):(Qf1 C k).length=2*C.length+1:=by simp[Qf1]
theorem XF1 (C:List Cr) (k v:Nat) (hv:v<2*C.length+1):(Qf1 C k).getD v 0=if v<k/\1<=v then ovM C v else 0:=by simp[Qf1,List.getD_eq_getElem?_getD,hv]
theorem Zf2 (C:List Cr):List.replicate (2*C.length+1) 0=Qf1 C 1:=by
 refine List.ext_getElem (by simp[Qf1]) fun j h1 h2=>?_
 simp only[Qf1,List.getElem_map,List.getElem_range,List.getElem_replicate]
 rw[if_neg (by omega)]
theorem Xk0 (C:List Cr) (k z:Nat) (hk:k<2*C.length+1) (h1:1<=k) (hz:ovM C k=z):(Qf1 C k).set k z=Qf1 C (k+1):=Qv1 (by simp[QD6]) fun v hv=>by
 have hv':v<2*C.length+1:=by simpa[QD6] using hv
 rw[QD7 _ _ _ _ (by rw[QD6];exact hk),XF1 _ _ _ hv',XF1 _ _ _ hv']
 by_cases e:v=k
 · subst e;rw[if_pos rfl,if_pos ⟨by omega,h1⟩,hz]
 · rw[if_neg e]
   by_cases h2:v<k/\1<=v
   · rw[if_pos h2,if_pos ⟨by omega,h2.2⟩]
   · rw[if_neg h2,if_neg (fun q=>h2 ⟨by omega,q.2⟩)]
theorem Zf3 (C:List Cr):(Qf1 C (2*C.length+1)).drop 1=ovL C (2*C.length):=by
 refine List.ext_getElem (by simp[Qf1,ovL]) fun j h1 h2=>?_
 simp only[List.getElem_drop,Qf1,ovL,List.getElem_map,List.getElem_range]
 rw [if_pos ⟨by have : j < 2 * C.length := by simpa [ovL] using h2
                omega,by omega⟩,Nat.add_comm]
theorem Qk0 (a : Option Addr) (cap : Nat) (C : List Cr) (loops : Int) (gF cF gT cT : Nat) (w : World) (hm : QQ6 C loops = true) (hD : Dr w a cap C gF gT) :
    Calls Tryz.prog 29 #[drV a cap C loops gF cF gT cT] w fun e w'=>∃ g,e=.returned (.tuple #[.slice (some ⟨g,0,none⟩) (2*C.length+1) (2*C.length+1),.int .i64 (ovC C:Nat)])/\w'.ownsRow w.heap.size 3 1 (.slice (some ⟨g,0,none⟩) (2*C.length+1) (2*C.length+1)) (2*C.length+1) (QJ7 (Qf1 C (2*C.length+1)))/\Below w.heap.size w w':=by
 obtain⟨s1,-,-,-⟩:=QX5 (QZ6 hm)
 obtain⟨i2,hk,hx0,hx1,hx2⟩:=info_parts Qy0
 have HM:=hidB hm
 have HD:=hidB hD
 have HLS:=hidB (QW5 (Qz7 hm))
 have HCV:Hid (ovC C=QQ7 (QJ6 C) (2*C.length+1)):=(rfl:ovC C=QQ7 (QJ6 C) (2*C.length+1))
 have HLP:Hid (∀ v,1<=v->v<2*C.length+1->1<=(QJ6 C).getD v 0):=fun v h1 h2=>HLS.out.pos (fun e he=>⟨(QC4 HM.out e he).1.1,(QC4 HM.out e he).2.1⟩) h2 h1
 have HZ0:Hid (List.replicate (2*C.length+1) 0=Qf1 C 1):=Zf2 C
 have HB0:Hid (Below w.heap.size w (w.alloc (.cells #[.slice a C.length cap,.int .i64 loops,.slice (some ⟨gF,0,none⟩) (2*C.length+1) cF,.slice (some ⟨gT,0,none⟩) (2*C.length+1) cT] 49))):=(Below.refl _ _).alloc (Nat.le_refl _) _
 unfold drV
 obtain⟨N,hN⟩:∃ N,N=2*C.length+1:=⟨_,rfl⟩
 have HN:Hid (N=2*C.length+1):=hN
 have hN1:1<=N:=by omega
 have hN2:N<=33:=by omega
 have HLA:Hid (∀ W,Dr W a cap C gF gT->Calls Tryz.prog 52 #[.agg #[.slice a C.length cap,.int .i64 loops,.slice (some ⟨gF,0,none⟩) N cF,.slice (some ⟨gT,0,none⟩) N cT]] W fun e w'=>∃ g,e=.returned (.slice (some ⟨g,0,none⟩) N N)/\w'.ownsRow W.heap.size 3 1 (.slice (some ⟨g,0,none⟩) N N) N (QJ7 (QJ6 C))/\Below W.heap.size W w'):=fun W hW=>by rw[hN];exact XW6 a cap C loops gF cF gT cT W HM.out hW
 rw[<-hN]at HLS HCV HLP HZ0 HB0 ⊢
 rw[HCV.out]
 clear hm hD hN
 go_enter Tryz.func29,Tryz.ntmps29
 go_wp2_with (go_at_call 52;refine(HLA.out _ (HD.out.on HB0.out)).mono ?_;rintro e9 w1 ⟨g,rfl,hr1,hb1⟩;refine Hid.out ?_)
 refine Lib.hid ?_
 have hs1:w.heap.size+1<=w1.heap.size:=by have:=hb1.size;simpa using this
 have hg1:w.heap.size+1<=g/\g<w1.heap.size:=by have:=hr1.lt g rfl;simpa using this
 have HR1:Hid (w1.ownsRow (w.heap.size+1) 3 1 (.slice (some ⟨g,0,none⟩) N N) N (QJ7 (QJ6 C))/\Below w.heap.size w w1):=⟨QZ7 hr1 (by simp),HB0.out.trans (hb1.mono (by simp))⟩
 clear hr1 hb1
 go_wp2_with (first|(at_make;refine wpList_make_full _ rfl _ _ 67 rfl w1.heap.size 3 i2 (.int .i64 0) 1 Tryz.underlying67 hk hx0 hx1 .i64 .i64 _ _ N rfl rfl rfl rfl (by rw[hx2];omega) (by unfold maxLen;omega) (by omega) ?_;intro w2 hrow hg2;refine Hid.out ?_))
 refine Lib.hid ?_
 rw[XY9,HZ0.out]at hrow
 have HP0:Hid (w2.ownsRow (w.heap.size+1) 3 1 (.slice (some ⟨g,0,none⟩) N N) N (QJ7 (QJ6 C))/\w2.ownsRow w1.heap.size 3 1 (.slice (some ⟨w1.heap.size,0,none⟩) N N) N (QJ7 (Qf1 C 1))/\Below w.heap.size w w2):=⟨own_any HR1.out.1 hg2,hrow,HR1.out.2.grown hg2 HR1.out.2.size (fun q hq=>by cases hq)⟩
 clear hrow hg2 HR1
 go_wp2
 go_loopw [3,5] (fun v3 v5 wr=>∃ j:Nat,1<=j/\j<=N/\v5=.int .i64 (j:Nat)/\v3=.int .i64 (QQ7 (QJ6 C) j:Nat)/\Hid (wr.ownsRow (w.heap.size+1) 3 1 (.slice (some ⟨g,0,none⟩) N N) N (QJ7 (QJ6 C))/\wr.ownsRow w1.heap.size 3 1 (.slice (some ⟨w1.heap.size,0,none⟩) N N) N (QJ7 (Qf1 C j))/\Below w.heap.size w wr)) (fun _ v5 _=>N-(intOf v5).toNat)
 case atStart=>exact⟨1,Nat.le_refl _,hN1,rfl,(by simp[QQ7]),HP0.out⟩
 case round=>
  clear HP0
  rename World=>W1
  obtain⟨j,hj1,hjn,rfl,rfl,hp⟩:=hrel
  have hlt:=(hp.out.2.1.lt w1.heap.size rfl).2
  have hr1:=Qw0 (QJ6 C) j
  by_cases hjl:j<N
  · obtain⟨q,hq⟩:∃ q,(QJ6 C).getD j 0=q:=⟨_,rfl⟩
    have hqj:q<=j:=by rw[<-hq];exact HLS.out.le hjl
    have hq1:1<=q:=by rw[<-hq];exact HLP.out j hj1 hjl
    have hqN:q<N:=by omega
    have e0:W1.cell? ⟨g,j,none⟩=some (.int .i64 (q:Nat)):=by
     rw[hp.out.1.cellAt j (by omega),QV0 _ j (by rw[HLS.out.1];omega),hq]
    by_cases hql:q<j
    · have HQR:Hid ((QJ6 C).getD q 0=q):=(by have h:=HLS.out.root hjl;rw[hq]at h;exact h:(QJ6 C).getD q 0=q)
      have HOV:=hidB (show ovM C j=QQ7 (QJ6 C) q by unfold ovM;rw[hq])
      have e1:W1.cell? ⟨w1.heap.size,q,none⟩=some (.int .i64 (QQ7 (QJ6 C) q:Nat)):=by
       rw[hp.out.2.1.cellAt q (by omega),QV0 _ q (by rw[QD6];have:=HN.out;omega),XF1 _ _ _ (by have:=HN.out;omega),if_pos ⟨hql,hq1⟩]
       unfold ovM
       rw[HQR.out]
      have HR1:=hidB (show QQ7 (QJ6 C) (j+1)=QQ7 (QJ6 C) j by simp only[QQ7];rw[if_neg (fun z=>by have:=z.2;omega)];simp)
      have hdq:decide ((q:Int)<(j:Int))=true:=by simp;omega
      have hdq2:decide (q<j)=true:=by simp;omega
      clear hq
      have hst:=hp.out.2.1.stored j (.int .i64 (QQ7 (QJ6 C) q:Nat))
      rw[Qg2,Xk0 C j (QQ7 (QJ6 C) q) (by have:=HN.out;omega) hj1 HOV.out]at hst
      have HST:Hid ((W1.setCell ⟨w1.heap.size,j,none⟩ (.int .i64 (QQ7 (QJ6 C) q:Nat))).ownsRow (w.heap.size+1) 3 1 (.slice (some ⟨g,0,none⟩) N N) N (QJ7 (QJ6 C))/\(W1.setCell ⟨w1.heap.size,j,none⟩ (.int .i64 (QQ7 (QJ6 C) q:Nat))).ownsRow w1.heap.size 3 1 (.slice (some ⟨w1.heap.size,0,none⟩) N N) N (QJ7 (Qf1 C (j+1)))/\Below w.heap.size w (W1.setCell ⟨w1.heap.size,j,none⟩ (.int .i64 (QQ7 (QJ6 C) q:Nat)))):=⟨hp.out.1.kept hst.2 (Or.inr (fun e=>by have:g=w1.heap.size:=Option.some.inj e;omega)),hst.1,hp.out.2.2.grown hst.2 hp.out.2.2.size (fun q hq=>by have:=Option.some.inj hq;omega)⟩
      have z0:W1.frozen? ⟨w1.heap.size,j,none⟩=false:=hp.out.2.1.frozenAt j
      have eo:W1.cell? ⟨w1.heap.size,j,none⟩=some (.int .i64 ((Qf1 C j).getD j 0:Nat)):=by
       rw[hp.out.2.1.cellAt j (by omega)];exact QV0 _ j (by rw[QD6];have:=HN.out;omega)
      clear hst
      go_wp2
      go_roundw
      case rel=>exact⟨j+1,by omega,by omega,by go_num,(by rw[HR1.out]),HST.out⟩
      case measure=>simp only[intOf];omega
    · obtain rfl:q=j:=by omega
      have HOV:=hidB (show ovM C q=QQ7 (QJ6 C) q by unfold ovM;rw[hq])
      have HR1:=hidB (show QQ7 (QJ6 C) (q+1)=QQ7 (QJ6 C) q+1 by simp only[QQ7];rw[if_pos ⟨hq1,hq⟩])
      have hdq:decide ((q:Int)<(q:Int))=false:=by simp
      have hdq2:decide (q<q)=false:=by simp
      clear hq
      have hst:=hp.out.2.1.stored q (.int .i64 (QQ7 (QJ6 C) q:Nat))
      rw[Qg2,Xk0 C q (QQ7 (QJ6 C) q) (by have:=HN.out;omega) hj1 HOV.out]at hst
      have HST:Hid ((W1.setCell ⟨w1.heap.size,q,none⟩ (.int .i64 (QQ7 (QJ6 C) q:Nat))).ownsRow (w.heap.size+1) 3 1 (.slice (some ⟨g,0,none⟩) N N) N (QJ7 (QJ6 C))/\(W1.setCell ⟨w1.heap.size,q,none⟩ (.int .i64 (QQ7 (QJ6 C) q:Nat))).ownsRow w1.heap.size 3 1 (.slice (some ⟨w1.heap.size,0,none⟩) N N) N (QJ7 (Qf1 C (q+1)))/\Below w.heap.size w (W1.setCell ⟨w1.heap.size,q,none⟩ (.int .i64 (QQ7 (QJ6 C) q:Nat)))):=⟨hp.out.1.kept hst.2 (Or.inr (fun e=>by have:g=w1.heap.size:=Option.some.inj e;omega)),hst.1,hp.out.2.2.grown hst.2 hp.out.2.2.size (fun q hq=>by have:=Option.some.inj hq;omega)⟩
      have z0:W1.frozen? ⟨w1.heap.size,q,none⟩=false:=hp.out.2.1.frozenAt q
      have eo:W1.cell? ⟨w1.heap.size,q,none⟩=some (.int .i64 ((Qf1 C q).getD q 0:Nat)):=by
       rw[hp.out.2.1.cellAt q (by omega)];exact QV0 _ q (by rw[QD6];have:=HN.out;omega)
      clear hst
      go_wp2
      go_roundw
      case rel=>exact⟨q+1,by omega,by omega,by go_num,(by rw[HR1.out];go_num),HST.out⟩
      case measure=>simp only[intOf];omega
  · obtain rfl:N=j:=by omega
    go_wp2
    go_ret2
    exact⟨_,rfl,QZ7 hp.out.2.1 (by omega),hp.out.2.2⟩
end Go.Proofs.YtookanmeflbdlaaGreatDoor
/- The walks of wind.sign, ref.signOf, wind.Writhe and ref.WritheOf. -/
namespace Go.Proofs.YtookanmeflbdlaaGreatDoor
open Go.RowKit
set_option maxHeartbeats 4000000
set_option maxRecDepth 100000
def sgn (p:Bool):Int:=if p=true then 1 else -1
theorem Xz1 (p:Bool):sgn p=1∨sgn p = -1:=by cases p<;>simp[sgn]
def wrM (C:List Cr):Nat->Int
 |0=>0
 |k+1=>wrM C k+sgn (C.getD k Cr.none).plus
theorem Xx0 (C:List Cr) (k:Nat) : -(k:Int)<=wrM C k/\wrM C k<=(k:Int):=by
 induction k with
 |zero=>simp[wrM]
 |succ k ih=>
  have:=Xz1 (C.getD k Cr.none).plus
  simp only[wrM]
  omega
theorem Zy8 (x : Cr) (w : World) :
    Calls Tryz.prog 27 #[.agg #[.int .i64 x.a,.int .i64 x.b,.int .i64 x.c,.int .i64 x.d,.bool x.plus]] w fun e w'=>e=.returned (.int .i64 (sgn x.plus))/\Below w.heap.size w w':=by
 obtain⟨xa,xb,xc,xd,xp⟩:=x
 cases xp<;>
 · go_enter Tryz.func27,Tryz.ntmps27
   go_wp2
   go_ret
   exact⟨rfl,(Below.refl _ _).alloc (Nat.le_refl _) _⟩
theorem XU4 (hFR : QQ8) (v : Value) (C : List Cr) (loops : Int) (w : World) (hn : noN C loops = 0) (h : Crs w w.heap.size v C) :
    Calls Tryz.prog 12 #[.agg #[v,.int .i64 loops]] w fun e w'=>e=.returned (.tuple #[.int .i64 (wrM C C.length),.int .i64 0])/\Below w.heap.size w w':=by
 have HC:=hidB h
 obtain⟨hm,hp⟩:=QU7 hn
 have HM:=hidB hm
 have HP:=hidB hp
 have HFA:Hid QQ8:=hFR
 obtain⟨s1,s2,s3,s4⟩:=QX5 (QZ6 hm)
 obtain⟨a,cap,rfl,-,-⟩:=h
 have HB1:Hid (Below w.heap.size w (w.alloc (.cells #[.slice a C.length cap,.int .i64 loops] 24))):=(Below.refl _ _).alloc (Nat.le_refl _) _
 clear hm hp hn hFR
 go_enter Tryz.func12,Tryz.ntmps12
 go_wp2_with (go_at_call 26;refine(XH0 HFA.out _ C loops _ HM.out HP.out (HC.out.up HB1.out)).mono ?_;rintro e9 w2 ⟨a',cap',gF,cF,gT,cT,rfl,hdr,hb2⟩;refine Hid.out ?_)
 refine Lib.hid ?_
 have HDR:=hidB hdr
 unfold drV
 have HB2:=hidB (HB1.out.trans (hb2.mono HB1.out.size))
 have hs2:=HB2.out.size
 have HBA:Hid (Below w2.heap.size w2 (w2.alloc (.cells #[.slice a' C.length cap',.int .i64 loops,.slice (some ⟨gF,0,none⟩) (2*C.length+1) cF,.slice (some ⟨gT,0,none⟩) (2*C.length+1) cT] 49))):=(Below.refl _ _).alloc (Nat.le_refl _) _
 clear hb2 hdr
 go_wp2
 go_loopw [6,21] (fun v6 v21 wr=>∃ i:Nat,i<=C.length/\v21=.int .i64 (i:Nat)/\v6=.int .i64 (wrM C i)/\Hid (Below w2.heap.size w2 wr)) (fun _ v21 _=>C.length-(intOf v21).toNat)
 case atStart=>exact⟨0,Nat.zero_le _,rfl,rfl,HBA.out⟩
 case round=>
  rename World=>W1
  obtain⟨i,hin,rfl,rfl,hb⟩:=hrel
  have hsW:=hb.out.size
  by_cases hil:i<C.length
  · obtain⟨b,off,ea,hbw,hC⟩:=HDR.out.cross (by omega)
    obtain rfl:=ea
    obtain⟨e0,e1,e2,e3,e4⟩:=(hC.on hb.out hbw) i hil
    have hbW:b<W1.heap.size:=by omega
    have hii:(i:Int)<(C.length:Int):=by omega
    have HWN:Hid (wrM C (i+1)=wrM C i+sgn (C.getD i Cr.none).plus):=(rfl:wrM C (i+1)=wrM C i+sgn (C.getD i Cr.none).plus)
    have hwb:=Xx0 C i
    obtain⟨x,hx⟩:∃ x,C.getD i Cr.none=x:=⟨_,rfl⟩
    rw[hx]at HWN e0 e1 e2 e3 e4
    obtain⟨z,hz⟩:∃ z,wrM C i=z:=⟨_,rfl⟩
    rw[hz]at HWN hwb ⊢
    obtain⟨sg',hsg⟩:∃ sg',sgn x.plus=sg':=⟨_,rfl⟩
    have HSG:=hidB hsg
    have hsb:=Xz1 x.plus
    rw[hsg]at HWN hsb
    have hsb2 : -1<=sg'/\sg'<=1:=by omega
    have ew:IntKind.i64.wrap (z+sg')=z+sg':=IntWalk.i64_in _ (by omega)
    clear hx hz hsg hsb hC
    go_wp2_with (go_at_call 27;refine(Zy8 x _).mono ?_;rw[HSG.out];rintro e9 w5 ⟨rfl,hb5⟩;have HB5:Hid (Below W1.heap.size W1 w5):=((Below.refl _ _).alloc (Nat.le_refl _) _).trans (hb5.mono (by simp));clear hb5)
    go_roundw
    case rel=>exact⟨i+1,by omega,by go_num,by rw[HWN.out],hb.out.trans (HB5.out.mono hsW)⟩
    case measure=>simp only[intOf];omega
  · obtain rfl:i=C.length:=by omega
    go_wp2
    go_ret2
    exact⟨rfl,HB2.out.trans (hb.out.mono hs2)⟩
end Go.Proofs.YtookanmeflbdlaaGreatDoor
