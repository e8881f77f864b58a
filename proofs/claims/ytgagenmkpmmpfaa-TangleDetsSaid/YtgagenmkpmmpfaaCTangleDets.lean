/-
 PROVED HERE: for every list of numbers and every p and q whatever, of which the law makes a list of odd length whose numbers come to at most ten crossings and a proper pair: the link that tangle.Link draws is planar, alex.Determinant of it is the size of the fraction's first number as tangle.Fraction answers it, the fraction's second number is never negative, and the link has one part if that first number is odd and two if it is even; and tangle.Expand answers ErrRange or a list of odd length, each number at least 1, whose fraction is the pair.
 CONDITIONS: none but the row's own reach.
-/
import Derived.Test.YtgagenmkpmmpfaaLTangleDets
import Derived.Test.YtgagenmkpmmpfaaR3
import Derived.Test.YtgagenmkpmmpfaaOpen
import Derived.Test.YtgagenmkpmmpfaaOpenSP
namespace Go.Proofs.Ytgagenmkpmmpfaa
open Go.ChangeShapes Go.WideShapes Go.ChangeAt Go.RowKit
set_option maxHeartbeats 4000000
set_option maxRecDepth 100000
theorem faceRings:FaceRingsOk:=fun a cap C loops gF cF gT cT w hm hD=>faceRings_ok a cap C loops gF cF gT cT w hm hD
theorem tangleDets_lifted (os : Os) (started : os.Started) (H : Type) (enc : TypeId × Value → H) :
    ReturnsInHanded {} Try.checked os 3 .any (Rows.tangleDetsSpec.pre6 enc Try.prog Try.f3 Rows.tangleDetsRow.domain false) (Rows.tangleDetsSpec.post enc Try.prog Try.f3 false true false false):=by
 refine returnsInHanded_of_change_sized (C:=Try.checked) own0 started (by kernel_rfl) Try.func3
  (ChangeSpec.witness6 (enc:=enc) (C:=Try.checked) false ⟨#[],#[.slice none 0 0,.int .i64 0,.int .i64 0],[]⟩ 8 (by kernel_rfl) (by kernel_rfl) (by kernel_rfl) (by kernel_rfl)) ?_
 intro W base args ds gs before hval0 hW hcnd hsz0 _
 have hval:∀ (j:Nat) t v,Try.f3.params[j]?=some t->args[j]?=some v->Value.okWide Try.prog W .any base t v:=hval0
 have hW':=hW
 obtain⟨p,q,hA0,hV,rfl,hfz,hnd⟩:=hW
 have hA:DataW.TrodAll enc Try.prog W 0 (fun _=>true) true Try.f3.params.toList args.toList ds p:=hA0
 rw[Try.params3]at hA hval
 obtain⟨v0,vs0,d0,ds0,p0,q0,hargs,rfl,rfl,h0,r0⟩:=trodAll_cons hA
 obtain⟨v1,vs1,d1,ds1,p1,q1,rfl,rfl,rfl,h1,r1⟩:=trodAll_cons r0
 obtain⟨v2,vs2,d2,ds2,p2,q2,rfl,rfl,rfl,h2,r2⟩:=trodAll_cons r1
 obtain⟨rfl,rfl,rfl⟩:=trodAll_nil r2
 obtain rfl:args=#[v0,v1,v2]:=by cases args;simp_all
 obtain⟨rfl,rfl⟩:=trodVars_none hV
 have hsz:(DataW.weightsEach Try.prog [22,3,3] [d0,d1,d2]).all (·<=reachBytes)=true:=by
  have h:=hsz0
  rw[Try.params3]at h
  exact h
 have hw0:∀ n∈d0.weights Try.prog 22,n<=reachBytes:=fun n hn=>by
  have:=List.all_eq_true.1 hsz n (DataW.weights_mem_each (ts:=[22,3,3]) (ds:=[d0,d1,d2]) (j:=0) (t:=22) rfl rfl n hn)
  simpa using this
 have k0:=h0
 have lt0:∀ x∈p0,x.block<W.heap.size:=by obtain⟨m,hm⟩:=k0;exact DataW.trod_lt m _ _ _ hm
 obtain⟨s0,n0,c0,rfl⟩:=okWide_slice Try.underlying22 (hval 0 22 v0 rfl rfl)
 obtain⟨fuel0,hf0⟩:=h0
 obtain⟨l0,hI0,hL0,hR0⟩:=ints_inI (v:=.slice s0 n0 c0) hf0 hw0
 obtain rfl:n0=l0.length:=by obtain⟨s,c,e⟩:=hI0.slice;injection e
 obtain⟨a1,rfl,rfl,rfl,w1⟩:=open_int Try.underlying3 (hval 1 3 v1 rfl rfl) h1
 obtain⟨a2,rfl,rfl,rfl,w2⟩:=open_int Try.underlying3 (hval 2 3 v2 rfl rfl) h2
 clear hA0 hval0
 refine(tangleDets_any faceRings s0 c0 l0 a1 a2 W hL0 (fun j hj=>by rw[List.getD_eq_getElem?_getD,List.getElem?_eq_getElem hj];exact hR0 _ (List.getElem_mem _)) (wf_range w1) (wf_range w2) hI0).mono fun e W' ⟨he,bel⟩=>?_
 subst he
 exact⟨_,rfl,_,_,_,[],_,[],hW',trodAll_mk1 (shut_bool Try.underlying4 _),(trodAll_cons_mk (Below.trod laidOut0 (by kernel_rfl) (of_decide_eq_true (by kernel_rfl)) k0 bel lt0) (trodAll_cons_mk (shut_int Try.underlying3 w1) (trodAll_cons_mk (shut_int Try.underlying3 w2) trodAll_mk0))),rfl,bel.frame _,fun h=>by cases h⟩
theorem and_two {a b:Bool} (h1:a=true) (h2:b=true):(a&&b)=true:=by rw[h1,h2];rfl
theorem tangleDets_closed:joinedFacts Try.prog 3 Try.f3 Rows.tangleDetsSpec Rows.tangleDetsRow=true:=by
 unfold joinedFacts
 iterate 31(refine and_two ?_ ?_;rotate_left;(as_aux_lemma=>kernel_rfl))
 as_aux_lemma=>kernel_rfl
theorem tangleDets_named:Try.prog.funcNamed Rows.tangleDetsRow.func=some 3:=by kernel_rfl
theorem tangleDets_wrap:Try.f3.isWrapper Try.prog Rows.tangleDetsRow.wrapper Rows.tangleDetsRow.mainSum:=by
 unfold Func.isWrapper
 first|(rw[if_pos (by decide +kernel)];kernel_rfl)|(rw[if_neg (by decide +kernel)];exact⟨rfl,rfl⟩)
theorem tangleDets_holds:Rows.TangleDetsSaid:=
 OpenClaim.holds_of_wide 3 Try.f3 rfl rfl rfl rfl rfl rfl rfl ⟨rfl,rfl,rfl,rfl,rfl⟩ rfl rfl rfl rfl rfl tangleDets_named Try.func3 tangleDets_closed
  (of_decide_eq_true (by kernel_rfl)) tangleDets_wrap
  (fun os started H enc _=>tangleDets_lifted os started H enc)
#print axioms tangleDets_holds
end Go.Proofs.Ytgagenmkpmmpfaa
