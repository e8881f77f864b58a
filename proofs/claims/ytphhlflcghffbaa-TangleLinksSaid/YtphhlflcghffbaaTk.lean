/- One operation of a region that draws its order, taken by hand. -/
import Derived.Test.YtphhlflcghffbaaBase
import Derived.Deep.RegionHeld3
namespace Go.Proofs.Ytphhlflcghffbaa
open Go.RowKit

theorem take_q {P : Program} {md : Region.Mode} {ops : Array Oper} {Q : Exit → Act → World → Prop} {S : World → Prop} {i : Nat} (d : Nat) {oi : Oper} {v : Value} {fuel : Nat} {listed : Array Bool} {ts : Array Value} {ds : List Deferred} {w : World} (hi : ops[i]? = some oi) (hdst : oi.dst = some d)
    (hs : Region.noSelect ops = true) (hf : Region.free md ops listed i = true) (hr : (Region.ready md ops listed).contains i = true) (hq : ∀ x a w', Q (.panic x) (Act.put a oi.dst v) w' → Q (.panic x) a w') (hy : YieldsIf P ops S oi v { tmps := ts, defers := ds }) (hS : S w)
    (h : wpAnyH P md ops Q S fuel (listed.setIfInBounds i true) { tmps := ts.setIfInBounds d v, defers := ds } w) : wpAnyH P md ops Q S (fuel + 1) listed { tmps := ts, defers := ds } w := by
  refine wpAnyH_take hi hs hf hr hq hy hS ?_
  rw [hdst]
  exact h
end Go.Proofs.Ytphhlflcghffbaa
