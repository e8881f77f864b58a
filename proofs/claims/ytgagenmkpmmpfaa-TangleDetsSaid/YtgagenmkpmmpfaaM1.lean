/- Maps from numbers to numbers that a call makes. -/
import Derived.Test.YtgagenmkpmmpfaaBaseP
import Derived.Maps.RangeWalk
import Derived.Maps.OwnOps
import Derived.Maps.OwnSet
namespace Go.Proofs.Ytgagenmkpmmpfaa
open Go.RowKit Go.Maps
theorem law3:Keyed Try.prog 3:=int_keyed Try.underlying3
theorem zero3 (w:World):(zeroValue 3).run Try.prog w=.ok (.int .i64 0) w:=by kernel_rfl
def coefOf (D:DataW Unit) (x:Int):Int:=
 match D.atKey (.int .i64 x) (.lit (.int .i64 0)) with
 |.lit (.int _ c)=>c
 |_=>0
theorem coefOf_at {D:DataW Unit} {x c:Int} (h:∀ zd,D.atKey (.int .i64 x) zd=.lit (.int .i64 c)):coefOf D x=c:=by
 unfold coefOf;rw[h]
theorem coefOf_none {D:DataW Unit} {x:Int} (h:Maps.has D (.int .i64 x)=false):coefOf D x=0:=by
 unfold coefOf;rw[atKey_of_not_has h]
theorem coefOf_put {D:DataW Unit} (hD:IsMap D) (x c y:Int):coefOf (D.put (.int .i64 x) (.lit (.int .i64 c))) y=if x=y then c else coefOf D y:=by
 by_cases h:x=y
 · subst h
   rw[if_pos rfl]
   exact coefOf_at fun zd=>atKey_put_same hD (show WideAt.IsKeyLit (.int .i64 x) from trivial) _ _
 · rw[if_neg h]
   unfold coefOf
   rw[atKey_put_other (by intro e;cases e;exact h rfl)]
theorem coefOf_look {D:DataW Unit} {x c:Int} (h:D.atKey (.int .i64 x) (.lit (.int .i64 0))=.lit (.int .i64 c)):coefOf D x=c:=by
 unfold coefOf;rw[h]
def OwnM (w:World) (b n:Nat) (D:DataW Unit):Prop:=w.ownsMap Try.prog 3 (plainElem Try.prog 3) b n D
theorem OwnM.on {w w':World} {B b n:Nat} {D:DataW Unit} (h:OwnM w b n D) (hb:Below B w w') (hlt:b<B):OwnM w' b n D:=by
 obtain⟨es,clock,hh,rest⟩:=h
 exact⟨es,clock,(hb.block b hlt).trans hh,rest⟩
theorem OwnM.look {w:World} {b n:Nat} {D:DataW Unit} (h:OwnM w b n D) (x:Int) (h1 : -9223372036854775808<=x) (h2:x<=9223372036854775807):(Instr.lookup 117 (.map (some b)) (.int .i64 x) false).run Try.prog w=.ok (.int .i64 (coefOf D x)) w:=by
 obtain⟨c,hrun,hat,-⟩:=World.ownsMap.lookup_int h law3 Try.underlying117 Try.underlying3 (zero3 w) (keyOf_int_mk Try.underlying3 (WalkArith.wf_i64 ⟨h1,h2⟩))
 rw[hrun,coefOf_look hat]
end Go.Proofs.Ytgagenmkpmmpfaa
