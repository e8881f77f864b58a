/- Several texts of the proof, one behind the other. -/
import Derived.Test.YtefooihnoajnlaaW7P
import Derived.Test.YtefooihnoajnlaaBaseP
import Derived.Deep.RegionHeld3
/- Lists of whole numbers that a call owns; the walk of gauss.evenNumbers. -/
namespace Go.Proofs.Ytefooihnoajnlaa
open Go.RowKit
def intsV (l:List Int):List Value:=l.map fun x=>.int .i64 x
theorem intsV_len (l:List Int):(intsV l).length=l.length:=by simp[intsV]
theorem intsV_get (l:List Int) (i:Nat) (h:i<l.length):(intsV l)[i]?=some (.int .i64 (l.getD i 0)):=by simp[intsV,List.getD,h]
theorem intsV_set (l:List Int) (i:Nat) (x:Int):(intsV l).set i (.int .i64 x)=intsV (l.set i x):=by simp[intsV,List.map_set]
theorem made_zero (n:Nat):(madeCells (Value.int .i64 0).cells (n*1)).toList=intsV (List.replicate n 0):=by
 have e:(Value.int .i64 0).cells=#[Value.int .i64 0]:=rfl
 rw[e,toList_madeCells_one,Nat.mul_one]
 simp[intsV]
end Go.Proofs.Ytefooihnoajnlaa
/- One operation of a region that draws its order, taken by hand. -/
namespace Go.Proofs.Ytefooihnoajnlaa
open Go.RowKit
theorem take_q {P : Program} {md : Region.Mode} {ops : Array Oper} {Q : Exit → Act → World → Prop} {S : World → Prop} {i : Nat} (d : Nat) {oi : Oper} {v : Value} {fuel : Nat} {listed : Array Bool} {ts : Array Value} {ds : List Deferred} {w : World} (hi : ops[i]? = some oi) (hdst : oi.dst = some d)
    (hs:Region.noSelect ops=true) (hf:Region.free md ops listed i=true) (hr:(Region.ready md ops listed).contains i=true) (hq:∀ x a w',Q (.panic x) (Act.put a oi.dst v) w'->Q (.panic x) a w') (hy:YieldsIf P ops S oi v { tmps:=ts,defers:=ds }) (hS:S w)
    (h:wpAnyH P md ops Q S fuel (listed.setIfInBounds i true) { tmps:=ts.setIfInBounds d v,defers:=ds } w):wpAnyH P md ops Q S (fuel+1) listed { tmps:=ts,defers:=ds } w:=by
 refine wpAnyH_take hi hs hf hr hq hy hS ?_
 rw[hdst]
 exact h
end Go.Proofs.Ytefooihnoajnlaa
