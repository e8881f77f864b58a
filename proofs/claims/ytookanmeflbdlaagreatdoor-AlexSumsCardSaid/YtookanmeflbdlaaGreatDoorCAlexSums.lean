/-
 PROVED HERE: for any two diagrams and any two numbers: where alex.Alexander answers both, both have crossings, at most ten together, and no loops, canon.Sum of them (at arcs that the numbers choose) has as Alexander's polynomial the product of theirs, as poly.Mul and poly.Unit tell it; and what all layers tell of the trefoil is what knows asks.
 CONDITIONS: the row's own alone: the package's variable ring holds what the program's text lays there (the card ties it).
-/
import Derived.Test.YtookanmeflbdlaaGreatDoorKN1P
import Derived.Test.YtookanmeflbdlaaGreatDoorOpen
import Derived.Test.YtookanmeflbdlaaGreatDoorCards
import Derived.Test.YtookanmeflbdlaaGreatDoorTie
import Derived.WalkKit
import Derived.Deep.DeepHandedRow
import Derived.Lib.LaidU8
import Derived.LaidSub
namespace Go.Proofs.YtookanmeflbdlaaGreatDoor
open Go.ChangeShapes Go.WideShapes Go.ChangeAt Go.RowKit
theorem ZW3 {n:Int} (h:(Lit.int .i64 n).wf=true) : -9223372036854775808<=n/\n<=9223372036854775807:=by
 simp[Lit.wf]at h
 have e:IntKind.i64.min = -9223372036854775808:=by decide
 omega
theorem Xx7 {cs:Array Value} {k:Nat} {x y:Value} (h:(cs.toList.drop k).take 2=[x,y]):cs[k]?=some x/\cs[k+1]?=some y:=by
 have h0:=congrArg (·[0]?) h
 have h1:=congrArg (·[1]?) h
 simp[List.getElem?_drop]at h0 h1
 exact⟨h0,h1⟩
theorem Ku8 {W:World} (h:laidMetH Tryz.prog Rows.alexSumsRow.laid W):Poly.RingAt W:=by
 have h2 : laidMet Tryz.prog [("knotwork/bracket.ring", Rows.laid_knotwork_bracket_ring)] W := h
 obtain⟨g,t,cs,fuel,p,hg,hty,hvar,hd⟩:=Lib.laidMet.reads h2 (.head _)
 obtain rfl : 0 = g := Option.some.inj ((show Tryz.prog.globalNamed "knotwork/bracket.ring" = some 0 by kernel_rfl).symm.trans hg)
 obtain rfl:140=t:=Option.some.inj ((show(Tryz.prog.globals[0]?).map (·.type)=some 140 by kernel_rfl).symm.trans hty)
 have hc2:Tryz.prog.cellsOf 45=2:=by kernel_rfl
 have key:∀ (i:Nat) (z1 z2:Int),i<2->([.agg [.lit (.int .i64 (-2)),.lit (.int .i64 (-1))],.agg [.lit (.int .i64 2),.lit (.int .i64 (-1))]]:List (DataW Unit))[i]?=some (.agg ([z1,z2].map fun z=>.lit (.int .i64 z)))->(cs.toList.drop (i*2)).take 2=[.int .i64 z1,.int .i64 z2]:=by
  intro i z1 z2 hi hz
  obtain⟨f2,d,q,h3,h4⟩:=Lib.array_elem (t:=140) (e:=45) (n:=2) Tryz.underlying140 hd i hi
  rw[hz]at h3
  obtain rfl:=Option.some.inj h3
  rw[hc2]at h4
  exact Lib.ints_of_struct (t := 45) (k := .i64) (zs := [z1, z2]) Tryz.underlying45 (fun j f hf => by
   match j,hf with
   |0,hf=>obtain rfl:=Option.some.inj hf;exact⟨Tryz.underlying3,rfl,by kernel_rfl⟩
   |1,hf=>obtain rfl:=Option.some.inj hf;exact⟨Tryz.underlying3,rfl,by kernel_rfl⟩
   |j+2,hf=>simp at hf) (by kernel_rfl) h4
 have a0:=Xx7 (key 0 (-2) (-1) (by omega) rfl)
 have a1:=Xx7 (key 1 2 (-1) (by omega) rfl)
 have hv:=fun c=>World.var?_cell hg hvar c
 exact⟨(hv 0).trans a0.1,(hv 1).trans a0.2,(hv 2).trans a1.1,(hv 3).trans a1.2⟩
set_option maxRecDepth 100000 in
theorem contract (H : Type) (enc : TypeId × Value → H) (W : World) (base : Nat) (args : Array Value) (ds gs : List (DataW H)) (before : List MemPlace)
    (hval:∀ (j:Nat) t v,Tryz.f3.params[j]?=some t->args[j]?=some v->Value.okWide Tryz.prog W .any base t v)
    (hW:DataW.Whole enc Tryz.prog Tryz.f3.params.toList Rows.alexSumsSpec.vars false W args.toList ds gs before)
    (hsz0:(DataW.weightsEach Tryz.prog (Tryz.f3.params.toList++(OpenSpec.ofChange Rows.alexSumsSpec).bare.plain.varTypes Tryz.prog) (ds++gs)).all (·<=reachBytes)=true)
    (hL:laidMetH Tryz.prog Rows.alexSumsRow.laid W):
    Calls Tryz.prog 3 args W fun e W'=>∃ v,e=.returned v/\Rows.alexSumsSpec.post enc Tryz.prog Tryz.f3 false true false false W args v W':=by
 have hW':=hW
 obtain⟨p,q,hA0,hV,rfl,hfz,hnd⟩:=hW
 have hA:DataW.TrodAll enc Tryz.prog W 0 (fun _=>true) true Tryz.f3.params.toList args.toList ds p:=hA0
 rw[Tryz.params3]at hA hval
 obtain⟨v0,vs0,d0,ds0,p0,q0,hargs,rfl,rfl,h0,r0⟩:=trodAll_cons hA
 obtain⟨v1,vs1,d1,ds1,p1,q1,rfl,rfl,rfl,h1,r1⟩:=trodAll_cons r0
 obtain⟨v2,vs2,d2,ds2,p2,q2,rfl,rfl,rfl,h2,r2⟩:=trodAll_cons r1
 obtain⟨v3,vs3,d3,ds3,p3,q3,rfl,rfl,rfl,h3,r3⟩:=trodAll_cons r2
 obtain⟨rfl,rfl,rfl⟩:=trodAll_nil r3
 obtain rfl:args=#[v0,v1,v2,v3]:=by cases args;simp_all
 obtain⟨rfl,rfl⟩:=trodVars_none hV
 have hsz:(DataW.weightsEach Tryz.prog [24,3,24,3] [d0,d1,d2,d3]).all (·<=reachBytes)=true:=by
  rw[Tryz.params3]at hsz0
  exact hsz0
 have hw0:∀ n∈d0.weights Tryz.prog 24,n<=reachBytes:=fun n hn=>by
  have:=List.all_eq_true.1 hsz n (DataW.weights_mem_each (ts:=[24,3,24,3]) (ds:=[d0,d1,d2,d3]) (j:=0) (t:=24) rfl rfl n hn)
  simpa using this
 have hw2:∀ n∈d2.weights Tryz.prog 24,n<=reachBytes:=fun n hn=>by
  have:=List.all_eq_true.1 hsz n (DataW.weights_mem_each (ts:=[24,3,24,3]) (ds:=[d0,d1,d2,d3]) (j:=2) (t:=24) rfl rfl n hn)
  simpa using this
 have k0:=h0
 have k2:=h2
 have lt0:∀ x∈p0,x.block<W.heap.size:=by obtain⟨m,hm⟩:=k0;exact DataW.trod_lt m _ _ _ hm
 have lt2:∀ x∈p2,x.block<W.heap.size:=by obtain⟨m,hm⟩:=k2;exact DataW.trod_lt m _ _ _ hm
 obtain⟨vc0,C0,loops0,rfl,hC0,hl0,-,-⟩:=Xj0 (hval 0 24 v0 rfl rfl) h0 hw0
 obtain⟨a1,rfl,rfl,rfl,w1⟩:=open_int Tryz.underlying3 (hval 1 3 v1 rfl rfl) h1
 obtain⟨vc2,C2,loops2,rfl,hC2,hl2,-,-⟩:=Xj0 (hval 2 24 v2 rfl rfl) h2 hw2
 obtain⟨a3,rfl,rfl,rfl,w3⟩:=open_int Tryz.underlying3 (hval 3 3 v3 rfl rfl) h3
 clear hA0
 refine(Xw7 vc0 vc2 C0 C2 loops0 loops2 a1 a3 W (ZW3 w1) (ZW3 w3) (hC0.crs (by unfold maxLen;omega)) (hC2.crs (by unfold maxLen;omega)) (Ku8 hL)).mono fun e W' ⟨he,bel⟩=>?_
 subst he
 exact⟨_,rfl,_,_,_,[],_,[],hW',trodAll_mk1 (shut_bool Tryz.underlying4 _),trodAll_cons_mk (Below.trod ZW0 (by kernel_rfl) (of_decide_eq_true (by kernel_rfl)) k0 bel lt0) (trodAll_cons_mk (shut_int Tryz.underlying3 w1) (trodAll_cons_mk (Below.trod ZW0 (by kernel_rfl) (of_decide_eq_true (by kernel_rfl)) k2 bel lt2) (trodAll_cons_mk (shut_int Tryz.underlying3 w3) trodAll_mk0))),rfl,bel.frame _,fun h=>by cases h⟩
def KB4 (cs:Array Value):Obj->Obj
 |.cells _ t frozen=>.cells cs t frozen
 |o=>o
noncomputable def laidWorld (os:Os):World:=
 { World.holding Tryz.prog os ⟨#[],#[],[]⟩ with heap:=(World.holding Tryz.prog os ⟨#[],#[],[]⟩).heap.modify 0 (KB4 #[.int .i64 (-2),.int .i64 (-1),.int .i64 2,.int .i64 (-1)]) }
theorem KB5 (os:Os):laidMet Tryz.prog Rows.alexSumsRow.laid ((laidWorld os).forCall (fun _ _=>0) ⟨#[],#[.agg #[.slice none 0 0,.int .i64 0],.int .i64 0,.agg #[.slice none 0 0,.int .i64 0],.int .i64 0],[]⟩).memory:=
 laidMet_of_run' 8 (by kernel_rfl) (by kernel_rfl)
theorem reads (os:Os) {H:Type} (enc:TypeId×Value->H):∃ places,DataW.whole enc Tryz.prog ((laidWorld os).forCall (fun _ _=>0) ⟨#[],#[.agg #[.slice none 0 0,.int .i64 0],.int .i64 0,.agg #[.slice none 0 0,.int .i64 0],.int .i64 0],[]⟩).memory Tryz.f3.params.toList Rows.alexSumsSpec.vars false #[Value.agg #[.slice none 0 0,.int .i64 0],.int .i64 0,.agg #[.slice none 0 0,.int .i64 0],.int .i64 0].toList 8=some ([.agg [.nil,.lit (.int .i64 0)],.lit (.int .i64 0),.agg [.nil,.lit (.int .i64 0)],.lit (.int .i64 0)],[],places):=
 ⟨[],by kernel_rfl⟩
set_option maxRecDepth 100000 in
theorem lifted (os : Os) (started : os.Started) (H : Type) (enc : TypeId × Value → H) (F : Stop.Interp) :
    ReturnsInHanded {} Tryz.checked os 3 .any ((OpenSpec.ofChange Rows.alexSumsSpec).preRow enc Tryz.prog Tryz.f3 Rows.alexSumsRow.domain false Rows.alexSumsRow.laid) (((OpenSpec.ofChange Rows.alexSumsSpec).at F).post enc Tryz.prog Tryz.f3 false true false false):=by
 obtain⟨places,hx⟩:=reads os enc
 refine returnsInHanded_of_row (C:=Tryz.checked) (s:=OpenSpec.ofChange Rows.alexSumsSpec) JF4 started (by kernel_rfl) Tryz.func3
  (witness_row_at (enc := enc) (C := Tryz.checked) false (laidWorld os) #[.agg #[.slice none 0 0, .int .i64 0], .int .i64 0, .agg #[.slice none 0 0, .int .i64 0], .int .i64 0] rfl (by kernel_rfl) (by kernel_rfl) (by kernel_rfl)
   (OpenSpec.preRow_of_cond 8 hx (by kernel_rfl) (fun k hk=>by cases hk) (by kernel_rfl) (KB5 os))) ?_
 intro W base args ds gs before hval hW _ _ hsz hL _ _
 exact contract H enc W base args ds gs before hval hW hsz hL
theorem said:Rows.AlexSumsSaid:=
 OpenClaim.holds_of_cond 3 Tryz.f3 rfl rfl rfl rfl rfl rfl rfl ⟨rfl,rfl,rfl,rfl,rfl⟩ rfl rfl rfl rfl rfl (by kernel_rfl) Tryz.func3 (by kernel_rfl)
  (of_decide_eq_true (by kernel_rfl)) (by unfold Func.isWrapper;first|(rw[if_pos (by decide +kernel)];kernel_rfl)|(rw[if_neg (by decide +kernel)];exact⟨rfl,rfl⟩))
  (fun os started H enc _ F=>by rw[OpenClaim.pre_eq_preRow];exact lifted os started H enc F)
theorem plain (f : FuncId) (fn : Func) (hf : Tryz.pinned.checked.prog.funcNamed "knotwork/knotworkkeep.AlexSums" = some f) (hfn : Tryz.pinned.checked.prog.funcs[f]? = some fn) :
    false=Tryz.pinned.checked.prog.looks []/\∀ (j:Nat) t,fn.params[j]?=some t->Tryz.pinned.checked.prog.wantsStandIn t=false:=by
 obtain rfl : f = 3 := Option.some.inj ((show Tryz.prog.funcNamed "knotwork/knotworkkeep.AlexSums" = some 3 by kernel_rfl).symm.trans hf) |>.symm
 obtain rfl:fn=Tryz.f3:=(Option.some.inj (Tryz.func3.symm.trans hfn)).symm
 refine⟨by kernel_rfl,fun j t ht=>?_⟩
 rw[Tryz.params3]at ht
 have h2:t=24∨t=3:=by
  have h3:=Array.mem_of_getElem? ht
  simp only[List.mem_toArray,List.mem_cons,List.not_mem_nil,or_false]at h3
  rcases h3 with h|h|h|h
  · exact Or.inl h
  · exact Or.inr h
  · exact Or.inl h
  · exact Or.inr h
 rcases h2 with rfl|rfl
 · exact(show Tryz.prog.wantsStandIn 24=false by kernel_rfl)
 · exact(show Tryz.prog.wantsStandIn 3=false by kernel_rfl)
theorem alexSums_holds:Rows.AlexSumsCardSaid:=
 Claim7.holds_tied_plain_at .later [] _ _ _ _ said (fun _ h=>by cases h) (by kernel_rfl) (fun _ h=>by cases h) alexSums_row_tie rfl ⟨rfl,rfl⟩ (by kernel_rfl) rfl plain (by kernel_rfl)
#print axioms alexSums_holds
end Go.Proofs.YtookanmeflbdlaaGreatDoor
