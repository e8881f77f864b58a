/- Several texts of the proof, one behind the other. -/
import Derived.Test.YtgagenmkpmmpfaaO0P
import Derived.Deep.QuietTactic
import Derived.BigQuiet
import Derived.Test.YtgagenmkpmmpfaaQ0P
import Derived.Test.YtgagenmkpmmpfaaF1P
/- Which of two tellings is less: the walks of cmp.Compare, slices.Compare and canon.compare. -/
namespace Go.Proofs.Ytgagenmkpmmpfaa
open Go.RowKit
def cmpI (x y:Int):Int:=if x<y then -1 else if y<x then 1 else 0
def lexC:List Int->List Int->Int
 |[],[]=>0
 |[],_::_ => -1
 |_::_,[]=>1
 |x::s,y::t=>if x=y then lexC s t else cmpI x y
def cmpT (p q:List Nat×List Int):Int:=if p.1.length=q.1.length then lexC p.2 q.2 else cmpI p.1.length q.1.length
end Go.Proofs.Ytgagenmkpmmpfaa
/- Plain mathematics: a drawing is coloured in as many ways by arcs as by overpasses. -/
namespace Go.Proofs.Ytgagenmkpmmpfaa
theorem rootsN_at (W:List Nat) (a:Nat) (h1:1<=a):rootsN W (a+1)=rootsN W a+(if W.getD a 0=a then 1 else 0):=by
 show rootsN W a+_=_
 by_cases e:W.getD a 0=a
 · rw[if_pos ⟨h1,e⟩,if_pos e]
 · rw[if_neg (fun h=>e h.2),if_neg e]
end Go.Proofs.Ytgagenmkpmmpfaa
/- Plain mathematics: both searches count the same. -/
namespace Go.Proofs.Ytgagenmkpmmpfaa
theorem ovM_in {C:List Cr} {loops:Int} (hm:mayD C loops=true) (a:Nat) (h1:1<=a) (h2:a<=2*C.length):ovM C a<ovC C:=by
 have hL:=lowM_least (ovE_lt hm)
 have hp:=hL.pos (fun e he=>⟨(ovE_in hm e he).1.1,(ovE_in hm e he).2.1⟩) (v:=a) (by omega) h1
 have h3:=rootsN_at (lowM C) ((lowM C).getD a 0) hp
 rw[if_pos (hL.root (by omega))]at h3
 have h4:=rootsN_mono (lowM C) ((lowM C).getD a 0+1) (2*C.length+1) (by have:=hL.le (v:=a) (by omega);omega)
 show rootsN (lowM C) ((lowM C).getD a 0)<rootsN (lowM C) (2*C.length+1)
 omega
end Go.Proofs.Ytgagenmkpmmpfaa
/- The walk of the law's ints: a copy of a list of numbers. -/
namespace Go.Proofs.Ytgagenmkpmmpfaa
open Go.RowKit
theorem InAt.rdI {w:World} {B size n:Nat} {v:Value} {xs:List Value} (h:InAt w B size v n xs):RdAt w B size v n xs:=by
 rcases h with⟨rfl,rfl⟩|⟨ad,cap,rfl,rfl⟩|⟨b,off,cap,rfl,hlt,hc⟩
 · exact⟨none,0,rfl,fun h=>absurd h (Nat.lt_irrefl 0)⟩
 · exact⟨some ad,cap,rfl,fun h=>absurd h (Nat.lt_irrefl 0)⟩
 · exact⟨_,cap,rfl,fun _=>⟨b,off,rfl,hlt,hc⟩⟩
end Go.Proofs.Ytgagenmkpmmpfaa
