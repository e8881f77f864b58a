/- Where ref.codeFrom stands: three lists of numbers that the call owns, each in a block of its own. -/
import Derived.Test.YtgagenmkpmmpfaaAS0P
import Derived.Test.YtgagenmkpmmpfaaO0P
import Derived.Deep.AppendLies
namespace Go.Proofs.Ytgagenmkpmmpfaa
open Go.RowKit
def nuM (p:List Nat) (x:Nat):Int:=if x∈p then(p.idxOf x:Int) else -1
theorem nuM_new (n:Nat) (p:List Nat) (x:Nat) (hx:x ∉ p):(mapI n (nuM p)).set x (p.length:Int)=mapI n (nuM (p++[x])):=by
 refine mapI_set _ _ _ _ _ fun y _=>?_
 unfold nuM
 by_cases e:y=x
 · subst e
   rw[if_pos rfl,if_pos (by simp),List.idxOf_append,if_neg hx]
   simp
 · rw[if_neg e]
   by_cases h:y∈p
   · rw[if_pos h,if_pos (List.mem_append_left _ h),List.idxOf_append,if_pos h]
   · rw[if_neg h,if_neg (fun h2=>by rcases List.mem_append.1 h2 with h2|h2;exact h h2;exact e (by simpa using h2))]
structure CdAt (B gN n:Nat) (p:List Nat×List Int) (vo vc:Value) (W:World):Prop where
 num:W.ownsRow B 3 1 (.slice (some ⟨gN,0,none⟩) n n) n (intsV (mapI n (nuM p.1)))
 ord:W.ownsRow B 3 1 vo p.1.length (nats p.1)
 cod:W.ownsRow B 3 1 vc p.2.length (intsV p.2)
 oN:vo.ownBlock≠some gN
 cN:vc.ownBlock≠some gN
 oc:vo.ownBlock=none∨vo.ownBlock≠vc.ownBlock
theorem CdAt.any {B gN n:Nat} {p:List Nat×List Int} {vo vc:Value} {W W':World} (h:CdAt B gN n p vo vc W) (hg:W.grownBy W' none):CdAt B gN n p vo vc W':=
 ⟨own_any h.num hg,own_any h.ord hg,own_any h.cod hg,h.oN,h.cN,h.oc⟩
theorem CdAt.code {B gN n g k cap H : Nat} {p : List Nat × List Int} {xs : List Int} {vo vc : Value} {W W8 : World} (h : CdAt B gN n p vo vc W) (hk : k = (p.2 ++ xs).length) (hown : W8.ownsRow B 3 1 (.slice (some ⟨g, 0, none⟩) k cap) k (intsV (p.2 ++ xs))) (hg : W.grownBy W8 vc.ownBlock) (hl : vc.ownBlock = some g ∨ g = H) (hH : W.heap.size = H) :
    CdAt B gN n (p.1,p.2++xs) vo (.slice (some ⟨g,0,none⟩) k cap) W8:=by
 have hn:=(h.num.lt gN rfl).2
 subst hk
 refine⟨h.num.kept hg (Or.inr (fun e=>h.cN e.symm)),h.ord.kept hg h.oc,hown,h.oN,fun e=>?_,?_⟩
 · have e2:g=gN:=Option.some.inj e
   rcases hl with hl|hl
   · rw[e2]at hl;exact h.cN hl
   · omega
 · rcases hl with hl|hl
   · rcases h.oc with h1|h1
     · exact Or.inl h1
     · refine Or.inr (fun e=>h1 ?_)
       rw[hl]
       exact e
   · cases hv:vo.ownBlock with
     |none=>exact Or.inl rfl
     |some q=>
      refine Or.inr (fun e=>?_)
      have h1:=(h.ord.lt q hv).2
      have h2:q=g:=Option.some.inj e
      omega
theorem CdAt.put {B gN n x : Nat} {p : List Nat × List Int} {vo vc : Value} {W : World} (h : CdAt B gN n p vo vc W) :
    (W.setCell ⟨gN,x,none⟩ (.int .i64 (p.1.length:Nat))).ownsRow B 3 1 (.slice (some ⟨gN,0,none⟩) n n) n (intsV ((mapI n (nuM p.1)).set x (p.1.length:Int)))/\(W.setCell ⟨gN,x,none⟩ (.int .i64 (p.1.length:Nat))).ownsRow B 3 1 vo p.1.length (nats p.1)/\(W.setCell ⟨gN,x,none⟩ (.int .i64 (p.1.length:Nat))).ownsRow B 3 1 vc p.2.length (intsV p.2)/\W.grownBy (W.setCell ⟨gN,x,none⟩ (.int .i64 (p.1.length:Nat))) (some gN):=by
 have hst:=h.num.stored x (.int .i64 (p.1.length:Nat))
 rw[intsV_set]at hst
 exact⟨hst.1,h.ord.kept hst.2 (Or.inr h.oN),h.cod.kept hst.2 (Or.inr h.cN),hst.2⟩
theorem CdAt.order {B gN n g k cap x H : Nat} {p : List Nat × List Int} {vo vc : Value} {W W8 : World} (hx : x ∉ p.1) (hk : k = (p.1 ++ [x]).length)
    (hnum:W.ownsRow B 3 1 (.slice (some ⟨gN,0,none⟩) n n) n (intsV ((mapI n (nuM p.1)).set x (p.1.length:Int)))) (hcod:W.ownsRow B 3 1 vc p.2.length (intsV p.2)) (oN:vo.ownBlock≠some gN) (cN:vc.ownBlock≠some gN) (oc:vo.ownBlock=none∨vo.ownBlock≠vc.ownBlock)
    (hown:W8.ownsRow B 3 1 (.slice (some ⟨g,0,none⟩) k cap) k (nats (p.1++[x]))) (hg:W.grownBy W8 vo.ownBlock) (hl:vo.ownBlock=some g∨g=H) (hH:W.heap.size=H):
    CdAt B gN n (p.1++[x],p.2) (.slice (some ⟨g,0,none⟩) k cap) vc W8:=by
 have hn:=(hnum.lt gN rfl).2
 subst hk
 rw[nuM_new n p.1 x hx]at hnum
 have hc:vc.ownBlock=none∨vc.ownBlock≠vo.ownBlock:=by
  cases hv:vc.ownBlock with
  |none=>exact Or.inl rfl
  |some q=>
   refine Or.inr (fun e=>?_)
   rw[hv]at oc
   rcases oc with h1|h1
   · rw[h1]at e;cases e
   · exact h1 e.symm
 refine⟨hnum.kept hg (Or.inr (fun e=>oN e.symm)),hown,hcod.kept hg hc,fun e=>?_,cN,?_⟩
 · have e2:g=gN:=Option.some.inj e
   rcases hl with hl|hl
   · rw[e2]at hl;exact oN hl
   · omega
 · refine Or.inr (fun e=>?_)
   have e':some g=vc.ownBlock:=e
   rcases hl with hl|hl
   · rcases hc with h1|h1
     · rw[h1]at e';cases e'
     · exact h1 (by rw[hl,<-e'])
   · have h1:=(hcod.lt g e'.symm).2
     omega
end Go.Proofs.Ytgagenmkpmmpfaa
