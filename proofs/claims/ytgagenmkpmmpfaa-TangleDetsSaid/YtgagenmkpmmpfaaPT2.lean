/- The walk of knotworkref.PolyMay: it answers whether a list of terms may be handed in; and small lemmas on worlds. -/
import Derived.Test.YtgagenmkpmmpfaaRows
import Derived.Test.YtgagenmkpmmpfaaBK0P
import Derived.WalkKit
import Derived.WalkSpells
import Derived.WalkLawsBesides
import Derived.Deep.QuietTactic
import Derived.BigQuiet
namespace Go.Proofs.Ytgagenmkpmmpfaa.Poly
open Go.RowKit
theorem bcell {B:Nat} {W w1:World} (hb:Below B W w1) {b o:Nat} {v:Option Value} (h:b<B) (hc:W.cell? ⟨b,o,none⟩=v):w1.cell? ⟨b,o,none⟩=v:=by
 rw[<-hc];exact hb.cell (p:=⟨b,o,none⟩) h
theorem below_drewN {B:Nat} {w w1:World} (h:Below B w w1):∀ n,Below B w (w1.drewN n):=fun n=>by
 induction n with
 |zero=>exact h
 |succ n ih=>exact ih.drew
theorem ret_bool {a b:Bool} (h:b=a):Ending.returned (.bool a)=.returned (.bool b):=by rw[h]
def TermsAt (w:World) (b off:Nat) (l:List (Int×Int)):Prop:=
 ∀ i,i<l.length->w.cell? ⟨b,off+i*2,none⟩=some (.int .i64 (l.getD i (0,0)).1)/\w.cell? ⟨b,off+i*2+1,none⟩=some (.int .i64 (l.getD i (0,0)).2)
theorem TermsAt.on {B:Nat} {W w1:World} {b off:Nat} {l:List (Int×Int)} (h:TermsAt W b off l) (hb:Below B W w1) (hlt:b<B):TermsAt w1 b off l:=
 fun i hi=>⟨bcell hb hlt (h i hi).1,bcell hb hlt (h i hi).2⟩
end Go.Proofs.Ytgagenmkpmmpfaa.Poly
