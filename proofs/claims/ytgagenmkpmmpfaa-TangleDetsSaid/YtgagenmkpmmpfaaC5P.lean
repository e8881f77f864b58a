/- Several texts of the proof, one behind the other. -/
import Derived.Test.YtgagenmkpmmpfaaC3m
import Derived.Test.YtgagenmkpmmpfaaM1
import Derived.Test.YtgagenmkpmmpfaaF2P
import Derived.Deep.RegionHeldLaw
import Derived.Test.YtgagenmkpmmpfaaF1P
/- Where canon.toldFrom stands: a telling in a box, its two lists, and a map of numbers. -/
namespace Go.Proofs.Ytgagenmkpmmpfaa
open Go.RowKit Go.Maps
theorem boxMapNe {w:World} {g g' m:Nat} {cs:Array Value} {t:TypeId} {fz:Nat×Nat} {D:DataW Unit} (hb:w.heap[g]?=some (.cells cs t fz)) (h:OwnM w g' m D):g≠g':=by
 obtain⟨es,clock,hh,-⟩:=h
 intro e
 subst e
 rw[hb]at hh
 cases hh
def NumsD (D:DataW Unit) (p:List Nat):Prop:=∀ x:Nat,Maps.has D (.int .i64 (x:Nat))=decide (x∈p)/\(x∈p->coefOf D (x:Nat)=(p.idxOf x:Int))
theorem NumsD.put {D:DataW Unit} {p:List Nat} (h:NumsD D p) (hD:IsMap D) {x:Nat} (hx:x ∉ p):NumsD (D.put (.int .i64 (x:Nat)) (.lit (.int .i64 (p.length:Nat)))) (p++[x]):=by
 intro y
 by_cases e:y=x
 · subst e
   refine⟨?_,fun _=>?_⟩
   · rw[has_put_same hD (show WideAt.IsKeyLit (.int .i64 (y:Nat)) from trivial)]
     simp
   · rw[coefOf_put hD,if_pos rfl,List.idxOf_append,if_neg hx]
     simp
 · have hne:(Lit.int .i64 (y:Nat))≠.int .i64 (x:Nat):=by intro h0;injection h0 with _ h1;omega
   refine⟨?_,fun hy=>?_⟩
   · rw[has_put_other hne,(h y).1]
     simp[e]
   · have hy2:y∈p:=by simpa[e] using hy
     rw[coefOf_put hD,if_neg (by omega),(h y).2 hy2,List.idxOf_append,if_pos hy2]
def MapN (W:World) (gM:Nat) (q:List Nat):Prop:=∃ m D,OwnM W gM m D/\m<=q.length/\NumsD D q
theorem MapN.kept {W W':World} {gM:Nat} {q:List Nat} {row:Option Nat} (h:MapN W gM q) (hg:W.grownBy W' row) (hne:row≠some gM):MapN W' gM q:=by
 obtain⟨m,D,⟨es,clock,hh,rest⟩,hm,hN⟩:=h
 have hlt:gM<W.heap.size:=(Array.getElem?_eq_some_iff.1 hh).1
 exact⟨m,D,⟨es,clock,(hg.block gM hlt (fun e=>hne e.symm)).trans hh,rest⟩,hm,hN⟩
end Go.Proofs.Ytgagenmkpmmpfaa
/- The walks of the closure that numbers arcs as they come, and of drawing.Renumbered with it. -/
namespace Go.Proofs.Ytgagenmkpmmpfaa
open Go.RowKit Go.Maps
def addF (F:List Nat) (x:Nat):List Nat:=if x∈F then F else F++[x]
def arcN (x:Cr) (k:Nat):Nat:=(x.arc k).toNat
def addN (F:List Nat) (x:Cr):Nat->List Nat
 |0=>F
 |k+1=>addF (addN F x k) (arcN x k)
def canN (F:List Nat) (x:Cr) (k:Nat):Int:=((addN F x (k+1)).idxOf (arcN x k):Int)+1
def canX (F:List Nat) (x:Cr):Cr:=⟨canN F x 0,canN F x 1,canN F x 2,canN F x 3,x.plus⟩
def NumA (D:DataW Unit) (F:List Nat):Prop:=Maps.size D=F.length/\∀ x:Nat,Maps.has D (.int .i64 (x:Nat))=decide (x∈F)/\(x∈F->coefOf D (x:Nat)=(F.idxOf x:Int)+1)
theorem NumA.put {D:DataW Unit} {F:List Nat} (h:NumA D F) (hT:Tidy D) (hD:IsMap D) {x:Nat} (hx:x ∉ F):NumA (D.put (.int .i64 (x:Nat)) (.lit (.int .i64 ((F.length:Int)+1)))) (F++[x]):=by
 refine⟨?_,fun y=>?_⟩
 · rw[size_put hT,(h.2 x).1,if_neg (by simpa using hx),h.1]
   simp
 · by_cases e:y=x
   · subst e
     refine⟨?_,fun _=>?_⟩
     · rw[has_put_same hD (show WideAt.IsKeyLit (.int .i64 (y:Nat)) from trivial)]
       simp
     · rw[coefOf_put hD,if_pos rfl,List.idxOf_append,if_neg hx]
       simp
   · have hne:(Lit.int .i64 (y:Nat))≠.int .i64 (x:Nat):=by intro h0;injection h0 with _ h1;omega
     refine⟨?_,fun hy=>?_⟩
     · rw[has_put_other hne,(h.2 y).1]
       simp[e]
     · have hy2:y∈F:=by simpa[e] using hy
       rw[coefOf_put hD,if_neg (by omega),(h.2 y).2 hy2,List.idxOf_append,if_pos hy2]
def MapA (W:World) (gM:Nat) (F:List Nat):Prop:=∃ m D,OwnM W gM m D/\m<=F.length/\NumA D F
theorem MapA.kept {W W':World} {gM:Nat} {F:List Nat} {row:Option Nat} (h:MapA W gM F) (hg:W.grownBy W' row) (hne:row≠some gM):MapA W' gM F:=by
 obtain⟨m,D,⟨es,clock,hh,rest⟩,hm,hN⟩:=h
 have hlt:gM<W.heap.size:=(Array.getElem?_eq_some_iff.1 hh).1
 exact⟨m,D,⟨es,clock,(hg.block gM hlt (fun e=>hne e.symm)).trans hh,rest⟩,hm,hN⟩
theorem MapA.lt {W:World} {gM:Nat} {F:List Nat} (h:MapA W gM F):gM<W.heap.size:=by
 obtain⟨m,D,⟨es,clock,hh,rest⟩,-,-⟩:=h
 exact(Array.getElem?_eq_some_iff.1 hh).1
theorem MapA.ne {W:World} {gM g:Nat} {F:List Nat} {cs:Array Value} {t:TypeId} {fz:Nat×Nat} (h:MapA W gM F) (hb:W.heap[g]?=some (.cells cs t fz)):g≠gM:=by
 obtain⟨m,D,hM,-,-⟩:=h
 exact boxMapNe hb hM
end Go.Proofs.Ytgagenmkpmmpfaa
