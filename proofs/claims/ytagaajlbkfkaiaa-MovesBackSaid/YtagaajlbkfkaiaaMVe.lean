/- Moves: an entry of a map from spots to numbers, found first and stored into then. -/
import Derived.Test.YtagaajlbkfkaiaaMV4
import Derived.WideKeyEntry
namespace Go.Proofs.Ytagaajlbkfkaiaa
open Go.RowKit Go.Maps Go.ChangeMaps
theorem set_set (w:World) (b:Nat) (o p:Obj):Go.ChangeMaps.setBlock (Go.ChangeMaps.setBlock w b o) b p=Go.ChangeMaps.setBlock w b p:=by
 unfold Go.ChangeMaps.setBlock
 simp
theorem MapS.entry {W:World} {b m:Nat} {F:Nat->Option Int} (h:MapS W b m F) (x:Nat) (hx:x<80) (hm:m<=1000):
    ∃ (v0:Value) (st:Nat) (w1:World),(Instr.mapEntry 151 (.map (some b)) (spV x)).run Try.prog W=.ok (.tuple #[v0,.int .i64 (st:Nat)]) w1/\W.grownBy w1 (some b)/\
     ∀ y:Int,-1000<=y/\y<=1000->∃ w',(Instr.entryStore 151 (.map (some b)) (.int .i64 (st:Nat)) (.int .i64 y)).run Try.prog w1=.ok () w'/\MapS w' b (m+1) (fun z=>if z=x then some y else F z)/\W.grownBy w' (some b):=by
 have h0:=h
 obtain⟨D,⟨es,clock,hb,hF,-,-⟩,-⟩:=h
 obtain⟨l,hl⟩:=keyS hx
 obtain⟨v0,st,es1,clock1,hE,-,hS⟩:=Go.WideElems.entry_then_store (w:=W) (deep_law_laid (by kernel_rfl) (m:=5) (by decide) (by decide +kernel) (by kernel_rfl) (by kernel_rfl)) Try.underlying151 (fun u=>zeroI u) hb hF hl
 refine⟨v0,st,_,hE,⟨rfl,rfl,rfl,by simp[Go.ChangeMaps.setBlock],fun i _ hi=>heap_setBlock_other hb _ (fun e=>hi (by rw[e]))⟩,fun y hy=>?_⟩
 obtain⟨es',clock',hs1,hs2⟩:=hS (Go.ChangeMaps.setBlock W b (.map es1 clock1)) (.int .i64 y) (heap_setBlock_same hb _)
 obtain⟨w',hrun,hmp,hg⟩:=h0.put x y hx hm hy
 rw[hs2]at hrun
 injection hrun with _ e
 rw[set_set]at hs1
 rw[e]at hs1
 exact⟨w',hs1,hmp,hg⟩
end Go.Proofs.Ytagaajlbkfkaiaa
