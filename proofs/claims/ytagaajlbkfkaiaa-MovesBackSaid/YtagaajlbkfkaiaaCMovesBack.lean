/-
 PROVED HERE: for every diagram and every move whatever: where the diagram is one that lies on a sphere and moves.Do does the move, what it makes lies on a sphere again; a curl is taken out by uncurling the last crossing, a push by pulling the last two, and the same diagram stands there but for numbers; a slide keeps the number of crossings and slides back at a face of the same arcs; uncurling takes one crossing, pulling two. Where Do refuses, it answers an empty diagram; where the diagram is none or lies on no sphere, ErrState.
 CONDITIONS: none but the row's own reach.
-/
import Derived.Test.YtagaajlbkfkaiaaTB2P
import Derived.Test.YtagaajlbkfkaiaaOpenP
namespace Go.Proofs.Ytagaajlbkfkaiaa
open Go.ChangeShapes Go.WideShapes Go.ChangeAt Go.RowKit
set_option maxHeartbeats 4000000
set_option maxRecDepth 100000
theorem movesBack_lifted (os:Os) (started:os.Started) (H:Type) (enc:TypeId×Value->H):
    ReturnsInHanded {} Try.checked os 6 .any (Rows.movesBackSpec.pre6 enc Try.prog Try.f6 Rows.movesBackRow.domain false) (Rows.movesBackSpec.post enc Try.prog Try.f6 false true false false):=by
 refine returnsInHanded_of_change_sized (C:=Try.checked) own0 started (by kernel_rfl) Try.func6
  (ChangeSpec.witness6 (enc:=enc) (C:=Try.checked) false ⟨#[],#[.agg #[.slice none 0 0,.int .i64 0],.agg #[.int .i64 0,.int .i64 0,.int .i64 0,.int .i64 0,.bool false,.int .i64 0,.bool false,.bool false]],[]⟩ 8 (by kernel_rfl) (by kernel_rfl) (by kernel_rfl) (by kernel_rfl)) ?_
 intro W base args ds gs before hval0 hW hcnd hsz0 _
 have hval:∀ (j:Nat) t v,Try.f6.params[j]?=some t->args[j]?=some v->Value.okWide Try.prog W .any base t v:=hval0
 have hW':=hW
 obtain⟨p,q,hA0,hV,rfl,hfz,hnd⟩:=hW
 have hA:DataW.TrodAll enc Try.prog W 0 (fun _=>true) true Try.f6.params.toList args.toList ds p:=hA0
 rw[Try.params6]at hA hval
 obtain⟨v0,vs0,d0,ds0,p0,q0,hargs,rfl,rfl,h0,r0⟩:=trodAll_cons hA
 obtain⟨v1,vs1,d1,ds1,p1,q1,rfl,rfl,rfl,h1,r1⟩:=trodAll_cons r0
 obtain⟨rfl,rfl,rfl⟩:=trodAll_nil r1
 obtain rfl:args=#[v0,v1]:=by cases args;simp_all
 obtain⟨rfl,rfl⟩:=trodVars_none hV
 have hsz:(DataW.weightsEach Try.prog [24,28] [d0,d1]).all (·<=reachBytes)=true:=by
  have h:=hsz0
  rw[Try.params6]at h
  exact h
 have hw0:∀ n∈d0.weights Try.prog 24,n<=reachBytes:=fun n hn=>by
  have:=List.all_eq_true.1 hsz n (DataW.weights_mem_each (ts:=[24,28]) (ds:=[d0,d1]) (j:=0) (t:=24) rfl rfl n hn)
  simpa using this
 have k0:=h0
 have lt0:∀ x∈p0,x.block<W.heap.size:=by obtain⟨m,hm⟩:=k0;exact DataW.trod_lt m _ _ _ hm
 have k1:=h1
 have lt1:∀ x∈p1,x.block<W.heap.size:=by obtain⟨m,hm⟩:=k1;exact DataW.trod_lt m _ _ _ hm
 obtain⟨vc0,C0,loops0,rfl,hC0,hl0,-,-⟩:=diag_open (hval 0 24 v0 rfl rfl) h0 hw0
 obtain⟨mk1,mx1,my1,mu1,mb1,mv1,mc1,mo1,rfl⟩:=move_open (hval 1 28 v1 rfl rfl) h1
 clear hA0 hval0
 refine(movesBack_any vc0 C0 loops0 ⟨mk1,mx1,my1,mu1,mb1,mv1,mc1,mo1⟩ W (by unfold maxLen;omega) hC0).mono fun e W' ⟨he,bel⟩=>?_
 subst he
 exact⟨_,rfl,_,_,_,[],_,[],hW',trodAll_mk1 (shut_bool Try.underlying4 _),(trodAll_cons_mk (Below.trod laidOut0 (by kernel_rfl) (of_decide_eq_true (by kernel_rfl)) k0 bel lt0) (trodAll_cons_mk (Below.trod laidOut0 (by kernel_rfl) (of_decide_eq_true (by kernel_rfl)) k1 bel lt1) trodAll_mk0)),rfl,bel.frame _,fun h=>by cases h⟩
theorem and_two {a b:Bool} (h1:a=true) (h2:b=true):(a&&b)=true:=by rw[h1,h2];rfl
theorem movesBack_closed:joinedFacts Try.prog 6 Try.f6 Rows.movesBackSpec Rows.movesBackRow=true:=by
 unfold joinedFacts
 iterate 31(refine and_two ?_ ?_;rotate_left;(as_aux_lemma=>kernel_rfl))
 as_aux_lemma=>kernel_rfl
theorem movesBack_named:Try.prog.funcNamed Rows.movesBackRow.func=some 6:=by kernel_rfl
theorem movesBack_wrap:Try.f6.isWrapper Try.prog Rows.movesBackRow.wrapper Rows.movesBackRow.mainSum:=by
 unfold Func.isWrapper
 first|(rw[if_pos (by decide +kernel)];kernel_rfl)|(rw[if_neg (by decide +kernel)];exact⟨rfl,rfl⟩)
theorem movesBack_holds:Rows.MovesBackSaid:=
 OpenClaim.holds_of_wide 6 Try.f6 rfl rfl rfl rfl rfl rfl rfl ⟨rfl,rfl,rfl,rfl,rfl⟩ rfl rfl rfl rfl rfl movesBack_named Try.func6 movesBack_closed
  (of_decide_eq_true (by kernel_rfl)) movesBack_wrap
  (fun os started H enc _=>movesBack_lifted os started H enc)
#print axioms movesBack_holds
end Go.Proofs.Ytagaajlbkfkaiaa
