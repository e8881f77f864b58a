/- Several texts of the proof, one behind the other. -/
import Derived.Test.YtjcagkgpbcdghaaDoorW3P
import Derived.Test.YtjcagkgpbcdghaaDoorCL4P
import Derived.BigQuiet
import Derived.Deep.CutRange
/- The walk of ref.ringsOf. -/
namespace Go.Proofs.YtjcagkgpbcdghaaDoor
open Go.RowKit
structure RiSt (w:World) (a:Option Addr) (cap:Nat) (C:List Cr) (lo:Nat) (L:List Nat) (W:World):Prop where
 box:W.heap[w.heap.size]?=some (.cells #[.slice a C.length cap,.int .i64 (lo:Nat)] 27 (0,0))
 own:W.ownsRow (w.heap.size+1) 3 1 (.slice (some ⟨w.heap.size+1,0,none⟩) (2*C.length+1) (2*C.length+1)) (2*C.length+1) (QK9 L)
 bel:Below w.heap.size w W
theorem RiSt.any {w W W':World} {a:Option Addr} {cap:Nat} {C:List Cr} {lo:Nat} {L:List Nat} (h:RiSt w a cap C lo L W) (hb:Below W.heap.size W W'):RiSt w a cap C lo L W':=
 ⟨(hb.block _ (Array.getElem?_eq_some_iff.1 h.box).1).trans h.box,own_any h.own (grown_below hb none),h.bel.trans (hb.mono h.bel.size)⟩
theorem RiSt.put {w W W':World} {a:Option Addr} {cap:Nat} {C:List Cr} {lo:Nat} {L L':List Nat} (h:RiSt w a cap C lo L W) (ho:W'.ownsRow (w.heap.size+1) 3 1 (.slice (some ⟨w.heap.size+1,0,none⟩) (2*C.length+1) (2*C.length+1)) (2*C.length+1) (QK9 L')) (hg:W.grownBy W' (some (w.heap.size+1))):RiSt w a cap C lo L' W':=
 ⟨(hg.block _ (Array.getElem?_eq_some_iff.1 h.box).1 (fun e=>by have:=Option.some.inj e;omega)).trans h.box,ho,h.bel.grown hg h.bel.size (fun j hj=>by cases hj;omega)⟩
end Go.Proofs.YtjcagkgpbcdghaaDoor
/- Plain mathematics of the bracket: how many states there are of each kind. -/
namespace Go.Proofs.YtjcagkgpbcdghaaDoor
def ixE (n s:Nat):Nat:=(exS s n+n).toNat
def ixS (C:List Cr) (lo wide s:Nat):Nat:=ixE C.length s*wide+rgS C lo s
def cq (C:List Cr) (lo wide:Nat):Nat->Nat->Nat
 |0,_=>0
 |S+1,q=>cq C lo wide S q+(if ixS C lo wide S=q then 1 else 0)
def gP (C:List Cr) (lo wide S:Nat) (T:Nat->Nat->Int) (R E:Nat):Int:=
 QX4 R (fun r=>QX4 (2*C.length+1) fun e=>(cq C lo wide S (e*wide+(r+1)):Int)*T (r+1) e)+QX4 E fun e=>(cq C lo wide S (e*wide+(R+1)):Int)*T (R+1) e
end Go.Proofs.YtjcagkgpbcdghaaDoor
