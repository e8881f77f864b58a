/- Several texts of the proof, one behind the other. -/
import Derived.Test.YtgagenmkpmmpfaaCyHP
import Derived.Test.YtgagenmkpmmpfaaC15P
import Derived.Test.YtgagenmkpmmpfaaO0P
import Derived.Lib.Hide
import Derived.Test.YtgagenmkpmmpfaaF1P
import Derived.Deep.RegionLaw
import Derived.Test.YtgagenmkpmmpfaaF2P
import Derived.Test.YtgagenmkpmmpfaaBaseP
/- Plain mathematics: a sum of two diagrams: it may be, and its darts. -/
namespace Go.Proofs.Ytgagenmkpmmpfaa
theorem may_inj {D : List Cr} {l : Int} (hs : sizeB D l = true) (hr : ∀ k s, k < D.length → s < 4 → 1 ≤ (D.getD k Cr.none).arc s ∧ (D.getD k Cr.none).arc s ≤ 2 * (D.length : Int))
    (one:∀ i k j t,i<D.length->k<4->j<D.length->t<4->(D.getD j Cr.none).arc t=(D.getD i Cr.none).arc k->(D.getD j Cr.none).comes t=(D.getD i Cr.none).comes k->j=i/\t=k):mayD D l=true:=by
 refine fit_yes hs fun i k hi hk=>?_
 obtain⟨h1,h2⟩:=hr i k hi hk
 refine⟨h1,h2,?_⟩
 unfold ahd
 rw[sdTo_zero i (fun j t hj ht h=>by have:=(one i k j t hi hk (by omega) ht h.1 h.2).1;omega),sd_zero k (fun t ht h=>by have:=(one i k i t hi hk hi (by omega) h.1 h.2).2;omega)]
end Go.Proofs.Ytgagenmkpmmpfaa
/- Plain mathematics: a sum of a diagram with itself is planar just if that is. -/
namespace Go.Proofs.Ytgagenmkpmmpfaa
def fz (C:List Cr) (A:Nat->Bool):Nat:=cyN (up0 (fd C)) (4*C.length+1) fun j=>decide (1<=j)&&A (lvC C j)
end Go.Proofs.Ytgagenmkpmmpfaa
/- Two renamings beside each other, and tied: their rings. -/
namespace Go.Proofs.Ytgagenmkpmmpfaa
structure Gd (f:Nat->Nat) (n:Nat):Prop where
 closed:∀ a,1<=a->a<=n->1<=f a/\f a<=n
 inj:∀ a b,1<=a->a<=n->1<=b->b<=n->f a=f b->a=b
theorem Gd.bij {f:Nat->Nat} {n:Nat} (h:Gd f n):Bij (up0 f) (n+1):=bij_up0 h.closed h.inj
def posQ (j:Nat):Bool:=decide (1<=j)
theorem walks_len {f:Nat->Nat} {n:Nat} (h:Gd f n):(walksTo f n n).1.length=cyN (up0 f) (n+1) posQ:=by
 rw[<-walks_cyN h.closed h.inj posQ rfl]
 refine(List.countP_eq_length.2 fun l hl=>?_).symm
 exact decide_eq_true ((heads_roots h.closed h.inj n (Nat.le_refl _)).1 l hl).1
end Go.Proofs.Ytgagenmkpmmpfaa
/- The renamings of a sum's arcs: straight on, and aside. -/
namespace Go.Proofs.Ytgagenmkpmmpfaa
theorem nx_gd {C:List Cr} {l:Int} (hm:mayD C l=true):Gd (nx C) (2*C.length):=⟨nx_closed hm,fun a b h1 h2 h3 h4 e=>nx_inj hm a b h1 h2 h3 h4 e⟩
end Go.Proofs.Ytgagenmkpmmpfaa
