/- Tellings: mathematics, and what the walks of ref.codeFrom and canon.toldFrom share. -/
import Derived.Test.YtagaajlbkfkaiaaC2
import Derived.Deep.RegionLaw
namespace Go.Proofs.Ytagaajlbkfkaiaa
open Go.RowKit
theorem teK_ok {C:List Cr} {loops:Int} (hm:mayD C loops=true) {i:Nat} {p:List Nat×List Int} (hi:i<p.1.length) (h:TeOk C p) {k:Nat} (hk:k<=4):TeOk C (teK C i p k):=by
 have hc:p.1.getD i 0<C.length:=h.lt _ (by rw[List.getD_eq_getElem?_getD,List.getElem?_eq_getElem hi];exact List.getElem_mem hi)
 induction k with
 |zero=>exact⟨h.lt,h.nd⟩
 |succ k ih=>exact teS_ok hm hc (ih (by omega)) (by omega)
theorem teI_ok {C:List Cr} {loops:Int} (hm:mayD C loops=true) {first:Nat} (hf:first<C.length) (i:Nat):TeOk C (teI C first i):=by
 induction i with
 |zero=>exact⟨fun x hx=>by simp only[teI,List.mem_singleton]at hx;omega,by simp[teI]⟩
 |succ i ih=>
  rw[teI]
  split
  · rename_i h;exact teK_ok hm h ih (Nat.le_refl _)
  · exact ih
theorem teI_stop {C : List Cr} {first i : Nat} (h : (teI C first i).1.length ≤ i) (d : Nat) : teI C first (i + d) = teI C first i := by
 induction d with
 |zero=>rfl
 |succ d ih=>
  rw[<-Nat.add_assoc,teI,ih,if_neg (by omega)]
theorem teK_len (C:List Cr) (i:Nat) (p:List Nat×List Int) (k:Nat):(teK C i p k).2.length=p.2.length+1+2*k:=by
 induction k with
 |zero=>simp[teK]
 |succ k ih=>
  rw[teK]
  simp only[teS,List.length_append,List.length_cons,List.length_nil,ih]
  omega
theorem teI_len (C:List Cr) (first i:Nat):(teI C first i).2.length<=9*i:=by
 induction i with
 |zero=>simp[teI]
 |succ i ih=>
  rw[teI]
  split
  · rw[teK_len];omega
  · omega
theorem cells_two (W:World) (a b:Value) (e:TypeId):∀ j u,[a,b][j]?=some u->(W.alloc (.cells #[a,b] e)).cell? ((⟨W.heap.size,0,none⟩:Addr).add j)=some u:=by
 intro j u hj
 have hb:(W.alloc (.cells #[a,b] e)).heap[W.heap.size]?=some (.cells #[a,b] e (0,0)):=alloc_at rfl
 match j,hj with
 |0,hj=>injection hj with h;subst h;exact QQ0 hb rfl
 |1,hj=>injection hj with h;subst h;exact QQ0 hb rfl
 |j+2,hj=>simp at hj
theorem ints_two (a b:Int):∀ u∈[Value.int .i64 a,.int .i64 b],u.oneCell'=true:=by
 intro u hu
 simp only[List.mem_cons,List.not_mem_nil,or_false]at hu
 rcases hu with rfl|rfl<;>rfl
theorem CdAt.drew {B gN n:Nat} {p:List Nat×List Int} {vo vc:Value} {W:World} (h:CdAt B gN n p vo vc W):CdAt B gN n p vo vc W.drew:=⟨h.num,h.ord,h.cod,h.oN,h.cN,h.oc⟩
theorem one_row {w:World} {B g:Nat} {e:TypeId} {x:Value} (hB:B<=g) (h:w.heap[g]?=some (.cells #[x] e (0,0))):w.ownsRow B e 1 (.slice (some ⟨g,0,none⟩) 1 1) 1 [x]:=
 ⟨rfl,Or.inr ⟨g,1,#[x],rfl,hB,h,Nat.le_refl _,by simp[maxLen],rfl,rfl⟩⟩
end Go.Proofs.Ytagaajlbkfkaiaa
