/- Several texts of the proof, one behind the other. -/
import Derived.Test.YtgagenmkpmmpfaaOpen
import Derived.Test.YtgagenmkpmmpfaaF1P
import Derived.Deep.SlicePairs
import Derived.Test.YtgagenmkpmmpfaaO0P
/- Slices of elements of one cell that come in. -/
namespace Go.Proofs.Ytgagenmkpmmpfaa
open Go.ChangeShapes Go.WideShapes Go.ChangeAt Go.RowKit
theorem weights_all {H:Type} {P:Program} {e:TypeId} {d:DataW H}:∀ {l:List (DataW H)},d∈l->∀ n∈d.weights P e,n∈DataW.weightsAll P e l
 |x::l,h,n,hn=>by
  simp only[DataW.weightsAll,List.mem_append]
  rcases List.mem_cons.1 h with rfl|h
  · exact Or.inl hn
  · exact Or.inr (weights_all h n hn)
theorem ones_trod {H : Type} {enc : TypeId × Value → H} {W : World} {v : Value} {d : DataW H} {p : List MemPlace} {fuel : Nat} {t e : TypeId} {bytes : Nat} (ht : Try.prog.underlying t = some (.slice e)) (hc : Try.prog.cellsOf e = 1) (hby : Try.prog.bytesOf e = bytes)
    (hf:DataW.trod enc Try.prog W 0 (fun _=>true) true fuel t [v]=some (d,p)) (hw:∀ n∈d.weights Try.prog t,n<=reachBytes):
    ∃ (xs:List Value),InAt W W.heap.size 1 v xs.length xs/\xs.length*bytes<=140737488355328/\
     ∀ i,i<xs.length->∃ D q n,DataW.trod enc Try.prog W 0 (fun _=>true) true n e [xs.getD i (.bool false)]=some (D,q)/\∀ k∈D.weights Try.prog e,k<=reachBytes:=by
 rcases Deep.open_slice1 ht hc hf with⟨hcs,hx⟩|⟨a,len,cap,m,n,V,D,Pl,hcs,hb,hl,hm,hmm,hx,hall⟩
 · simp only[List.cons.injEq,and_true]at hcs
   subst hcs
   exact⟨[],Or.inl ⟨rfl,rfl⟩,by simp,fun i hi=>absurd hi (by simp)⟩
 · simp only[List.cons.injEq,and_true]at hcs
   subst hcs
   simp only[if_true]at hmm
   subst hmm
   have hd:=congrArg Prod.fst hx
   simp only at hd
   rw[hd]at hw
   have hsz2:(len+(m-len))*bytes<=reachBytes:=by
    have:=hw ((len+(m-len))*bytes) (by simp[DataW.weights,ht,hby])
    exact this
   have hlen:len*bytes<=140737488355328:=by
    have:=reachBytes_lt
    have h2:len*bytes<=(len+(m-len))*bytes:=Nat.mul_le_mul_right _ (by omega)
    omega
   have hgl:∀ i,i<len->((List.range len).map V).getD i (.bool false)=V i:=fun i hi=>by simp[List.getD,hi]
   refine⟨(List.range len).map V,?_,by simpa using hlen,fun i hi=>?_⟩
   · rcases Nat.eq_zero_or_pos len with h0|h0
     · subst h0
       exact Or.inr (Or.inl ⟨a,m,rfl,by simp⟩)
     · have hc0:=(hall 0 (by omega)).1
       obtain⟨b,off,spot⟩:=a
       have hspot:spot=none:=by simpa[Addr.add] using World.cell?_spot hc0
       subst hspot
       refine Or.inr (Or.inr ⟨b,off,m,by simp,?_,fun i hi=>?_⟩)
       · have hc2:W.cell? ⟨b,off,none⟩=some (V 0):=by simpa[Addr.add] using hc0
         rcases Nat.lt_or_ge b W.heap.size with h|h
         · exact h
         · simp[World.cell?,Array.getElem?_eq_none h]at hc2
       · have hi':i<len:=by simpa using hi
         have g0:=(hall i (by omega)).1
         rw[Addr.add_lit]at g0
         rw[g0]
         simp[hi']
   · have hi':i<len:=by simpa using hi
     rw[hgl i hi']
     refine⟨D i,Pl i,n,(hall i (by omega)).2,fun k hk=>hw k ?_⟩
     have hmem:D i∈(List.range len).map D:=List.mem_map.2 ⟨i,List.mem_range.2 hi',rfl⟩
     have:=weights_all (P:=Try.prog) (e:=e) hmem k hk
     simp only[DataW.weights,ht,List.mem_cons,List.mem_append]
     exact Or.inr (Or.inl this)
end Go.Proofs.Ytgagenmkpmmpfaa
/- Numbers that come in: a slice of them, and that each is an int of the language. -/
namespace Go.Proofs.Ytgagenmkpmmpfaa
open Go.ChangeShapes Go.WideShapes Go.ChangeAt Go.RowKit
theorem bytesIntN:Try.prog.bytesOf 3=8:=by kernel_rfl
theorem wf_range {z:Int} (h:(Lit.int .i64 z).wf=true) : -9223372036854775808<=z/\z<=9223372036854775807:=by
 have e1:IntKind.i64.min = -9223372036854775808:=by decide
 have e2:IntKind.i64.max=9223372036854775807:=by decide
 simp only[Lit.wf,Bool.and_eq_true,decide_eq_true_eq]at h
 omega
end Go.Proofs.Ytgagenmkpmmpfaa
/- Numbers that come in, as they may be copied. -/
namespace Go.Proofs.Ytgagenmkpmmpfaa
open Go.ChangeShapes Go.WideShapes Go.ChangeAt Go.RowKit
theorem ints_inI {H : Type} {enc : TypeId × Value → H} {W : World} {v : Value} {d : DataW H} {p : List MemPlace} {fuel : Nat} (hf : DataW.trod enc Try.prog W 0 (fun _ => true) true fuel 22 [v] = some (d, p)) (hw : ∀ n ∈ d.weights Try.prog 22, n ≤ reachBytes) :
    ∃ l:List Int,InAt W W.heap.size 1 v l.length (intsV l)/\l.length*8<=140737488355328/\∀ x∈l,-9223372036854775808<=x/\x<=9223372036854775807:=by
 obtain⟨xs,hS,hL,hE⟩:=ones_trod Try.underlying22 cellsInt bytesIntN hf hw
 have each:∀ i,i<xs.length->∃ z:Int,xs.getD i (.bool false)=.int .i64 z/\(-9223372036854775808<=z/\z<=9223372036854775807):=fun i hi=>by
  obtain⟨D,q,n,hD,-⟩:=hE i hi
  obtain⟨z0,e0,_,hz⟩:=DataW.trod_int Try.underlying3 hD
  simp only[List.cons.injEq,and_true]at e0
  exact⟨z0,e0,wf_range hz⟩
 obtain⟨f,hfs⟩:=Deep.choose_lt each
 have ex:intsV ((List.range xs.length).map f)=xs:=by
  apply List.ext_getElem?
  intro j
  by_cases hj:j<xs.length
  · have h:=(hfs j hj).1
    rw[List.getD_eq_getElem?_getD,List.getElem?_eq_getElem hj,Option.getD_some]at h
    rw[List.getElem?_eq_getElem hj,h]
    simp[intsV,hj]
  · rw[List.getElem?_eq_none (by simp[intsV];omega),List.getElem?_eq_none (by omega)]
 refine⟨(List.range xs.length).map f,?_,by simpa using hL,fun x hx=>?_⟩
 · rw[ex]
   simpa using hS
 · obtain⟨j,hj,rfl⟩:=List.mem_map.1 hx
   exact(hfs j (List.mem_range.1 hj)).2
theorem InAt.slice {w:World} {B size n:Nat} {v:Value} {xs:List Value} (h:InAt w B size v n xs):∃ a c,v=.slice a n c:=by
 rcases h with⟨rfl,rfl⟩|⟨ad,cap,rfl,rfl⟩|⟨b,off,cap,rfl,hlt,hc⟩
 · exact⟨none,0,rfl⟩
 · exact⟨some ad,cap,rfl⟩
 · exact⟨_,cap,rfl⟩
end Go.Proofs.Ytgagenmkpmmpfaa
