/- Diagrams in boxes, and two that are one told alike (split off LCTa). -/
import Derived.Test.YtagaajlbkfkaiaaA0
import Derived.Test.YtagaajlbkfkaiaaC18P
import Derived.BigRegion
namespace Go.Proofs.Ytagaajlbkfkaiaa
open Go.RowKit
set_option maxHeartbeats 4000000
set_option maxRecDepth 100000
def Good (w:World) (P:World->Prop):Prop:=∀ w',Below w.heap.size w w'->P w'
theorem Good.on {w w2:World} {P:World->Prop} (h:Good w P) (hb:Below w.heap.size w w2):Good w2 P:=fun w' h'=>h w' (hb.trans (h'.mono hb.size))
theorem Good.now {w:World} {P:World->Prop} (h:Good w P):P w:=h w (Below.refl _ _)
def BoxP (g:Nat) (a:Option Addr) (cap:Nat) (C:List Cr) (l:Int) (w:World):Prop:=Crs w w.heap.size (.slice a C.length cap) C/\w.cell? ⟨g,0,none⟩=some (.slice a C.length cap)/\w.cell? ⟨g,1,none⟩=some (.int .i64 l)/\g<w.heap.size
theorem boxed {w Y:World} {a:Option Addr} {cap:Nat} {C:List Cr} {l:Int} (hc:Crs w w.heap.size (.slice a C.length cap) C) (hY:Y=w.alloc (.cells #[.slice a C.length cap,.int .i64 l] 24)):Good Y (BoxP w.heap.size a cap C l)/\Below w.heap.size w Y:=by
 have hb:Below w.heap.size w Y:=by rw[hY];exact(Below.refl _ _).alloc (Nat.le_refl _) _
 have hT:Y.heap[w.heap.size]?=some (.cells #[.slice a C.length cap,.int .i64 l] 24 (0,0)):=by rw[hY];exact alloc_at rfl
 have hs:w.heap.size<Y.heap.size:=(Array.getElem?_eq_some_iff.1 hT).1
 refine⟨fun w' h'=>?_,hb⟩
 have g:=(h'.block _ hs).trans hT
 exact⟨(hc.up hb).up h',QQ0 g rfl,QQ0 g rfl,(Array.getElem?_eq_some_iff.1 g).1⟩
theorem QU6 {w:World} {B:Nat} {v:Value} {C:List Cr} (h:Crs w B v C):∃ a cap,v=.slice a C.length cap:=by obtain⟨a,cap,e,-,-⟩:=h;exact⟨a,cap,e⟩
theorem alike_yes (v1 v2:Value) (C:List Cr) (loops:Int) (w:World) (hm:mayD C loops=true) (h1:Crs w w.heap.size v1 C) (h2:Crs w w.heap.size v2 C):
    Calls Try.prog 19 #[.agg #[v1,.int .i64 loops],.agg #[v2,.int .i64 loops]] w fun e w'=>e=.returned (.bool true)/\Below w.heap.size w w':=by
 have HM:=hidB hm
 obtain⟨a,cap,rfl⟩:=QU6 h1
 obtain⟨a',cap',rfl⟩:=QU6 h2
 obtain⟨X,hX⟩:∃ X,X=w.alloc (.cells #[.slice a C.length cap,.int .i64 loops] 24):=⟨_,rfl⟩
 obtain⟨Y,hY⟩:∃ Y,Y=X.alloc (.cells #[.slice a' C.length cap',.int .i64 loops] 24):=⟨_,rfl⟩
 obtain⟨g1,b1⟩:=boxed h1 hX
 obtain⟨g2,b2⟩:=boxed (h2.up b1) hY
 have g1':=g1.on b2
 have hsX:X.heap.size=w.heap.size+1:=by rw[hX];simp
 have HX:=hidB (show Y=(w.alloc (.cells #[.slice a C.length cap,.int .i64 loops] 24)).alloc (.cells #[.slice a' C.length cap',.int .i64 loops] 24) by rw[hY,hX])
 have HBW:=hidB (b1.trans (b2.mono b1.size))
 obtain⟨c1,p0,p1,p2⟩:=g1'.now
 obtain⟨c2,q0,q1,q2⟩:=g2.now
 have HC1:=hidB c1
 have HC2:=hidB c2
 rw[hsX]at q0 q1 q2
 rw[HX.out]at p0 p1 p2 q0 q1 q2
 clear hX hY g1 g2 g1' b1 b2 hsX h1 h2 hm c1 c2
 go_enter Try.func19,Try.ntmps19
 go_upto_region 2 with(go_at_call 52;rw[<-HX.out];refine(same_yes _ _ C C loops loops _ HM.out HM.out HC1.out HC2.out).mono ?_;rintro e9 w4 ⟨⟨b,rfl,-,hsame⟩,hb4⟩;obtain⟨K1,K2,f1,f2,rfl⟩:=hsame rfl;rw[form_two HM.out f1 f2,(sameD_iff 0 0 K2 K2).2 ⟨rfl,rfl,fun j _=>crEq_refl _⟩])
 have H4:=hidB (HBW.out.trans (hb4.mono HBW.out.size))
 clear hb4 hsame f1 f2
 go_wp2
 go_ret
 exact⟨rfl,H4.out⟩
end Go.Proofs.Ytagaajlbkfkaiaa
