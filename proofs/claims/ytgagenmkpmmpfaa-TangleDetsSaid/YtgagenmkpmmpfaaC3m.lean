/- Tellings: mathematics, and what the walks of ref.codeFrom and canon.toldFrom share. -/
import Derived.Test.YtgagenmkpmmpfaaC2
import Derived.Deep.RegionLaw
namespace Go.Proofs.Ytgagenmkpmmpfaa
open Go.RowKit
theorem teK_ok {C:List Cr} {loops:Int} (hm:mayD C loops=true) {i:Nat} {p:List Nat×List Int} (hi:i<p.1.length) (h:TeOk C p) {k:Nat} (hk:k<=4):TeOk C (teK C i p k):=by
 have hc:p.1.getD i 0<C.length:=h.lt _ (by rw[List.getD_eq_getElem?_getD,List.getElem?_eq_getElem hi];exact List.getElem_mem hi)
 induction k with
 |zero=>exact⟨h.lt,h.nd⟩
 |succ k ih=>exact teS_ok hm hc (ih (by omega)) (by omega)
theorem teI_ok {C:List Cr} {loops:Int} (hm:mayD C loops=true) {first:Nat} (hf:first<C.length) (i:Nat):TeOk C (teI C first i):=by
 induction i with
 |zero=>exact⟨fun x hx=>by simp only[teI,List.mem_singleton]at hx;omega,by simp[teI]⟩
 |succ i ih=>
  rw[teI]
  split
  · rename_i h;exact teK_ok hm h ih (Nat.le_refl _)
  · exact ih
theorem CdAt.drew {B gN n:Nat} {p:List Nat×List Int} {vo vc:Value} {W:World} (h:CdAt B gN n p vo vc W):CdAt B gN n p vo vc W.drew:=⟨h.num,h.ord,h.cod,h.oN,h.cN,h.oc⟩
end Go.Proofs.Ytgagenmkpmmpfaa
