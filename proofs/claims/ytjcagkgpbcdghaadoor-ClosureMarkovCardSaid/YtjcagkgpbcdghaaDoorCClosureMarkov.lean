/-
 PROVED HERE: for any number, any two lists of numbers and either sign: of the braid that they choose (2 to 4 strands, at most 4 letters), of it with a word of at most 2 letters before it and that word's reciprocal behind it, and of it with one strand more and a crossing of it: closure.Close answers diagrams of all three, bracket.Jones one polynomial that isn't nothing, and alex.Alexander one polynomial.
 CONDITIONS: the row's own alone: the variable bracket.ring holds what the program's text lays there (the card ties it).
-/
import Derived.Test.YtjcagkgpbcdghaaDoorLClosureMarkov
import Derived.Test.YtjcagkgpbcdghaaDoorOpenSP
import Derived.Test.YtjcagkgpbcdghaaDoorCards
import Derived.Test.YtjcagkgpbcdghaaDoorTie
import Derived.WalkKit
import Derived.Deep.DeepHandedRow
import Derived.Lib.LaidU8
import Derived.LaidSub
namespace Go.Proofs.YtjcagkgpbcdghaaDoor
open Go.ChangeShapes Go.WideShapes Go.ChangeAt Go.RowKit
theorem KA5 {n:Int} (h:(Lit.int .i64 n).wf=true) : -9223372036854775808<=n/\n<=9223372036854775807:=by
 simp[Lit.wf]at h
 have e:IntKind.i64.min = -9223372036854775808:=by decide
 omega
theorem Xk0 {cs:Array Value} {k:Nat} {x y:Value} (h:(cs.toList.drop k).take 2=[x,y]):cs[k]?=some x/\cs[k+1]?=some y:=by
 have h0:=congrArg (·[0]?) h
 have h1:=congrArg (·[1]?) h
 simp[List.getElem?_drop]at h0 h1
 exact⟨h0,h1⟩
theorem Kg7 {W:World} (h:laidMetH Tryd.prog Rows.closureMarkovRow.laid W):Poly.RingAt W:=by
 have h2 : laidMet Tryd.prog [("knotwork/bracket.ring", Rows.laid_knotwork_bracket_ring)] W := h
 obtain⟨g,t,cs,fuel,p,hg,hty,hvar,hd⟩:=Lib.laidMet.reads h2 (.head _)
 obtain rfl : 0 = g := Option.some.inj ((show Tryd.prog.globalNamed "knotwork/bracket.ring" = some 0 by kernel_rfl).symm.trans hg)
 obtain rfl:102=t:=Option.some.inj ((show(Tryd.prog.globals[0]?).map (·.type)=some 102 by kernel_rfl).symm.trans hty)
 have hc2:Tryd.prog.cellsOf 56=2:=by kernel_rfl
 have key:∀ (i:Nat) (z1 z2:Int),i<2->([.agg [.lit (.int .i64 (-2)),.lit (.int .i64 (-1))],.agg [.lit (.int .i64 2),.lit (.int .i64 (-1))]]:List (DataW Unit))[i]?=some (.agg ([z1,z2].map fun z=>.lit (.int .i64 z)))->(cs.toList.drop (i*2)).take 2=[.int .i64 z1,.int .i64 z2]:=by
  intro i z1 z2 hi hz
  obtain⟨f2,d,q,h3,h4⟩:=Lib.array_elem (t:=102) (e:=56) (n:=2) Tryd.underlying102 hd i hi
  rw[hz]at h3
  obtain rfl:=Option.some.inj h3
  rw[hc2]at h4
  exact Lib.ints_of_struct (t := 56) (k := .i64) (zs := [z1, z2]) Tryd.underlying56 (fun j f hf => by
   match j,hf with
   |0,hf=>obtain rfl:=Option.some.inj hf;exact⟨Tryd.underlying3,rfl,by kernel_rfl⟩
   |1,hf=>obtain rfl:=Option.some.inj hf;exact⟨Tryd.underlying3,rfl,by kernel_rfl⟩
   |j+2,hf=>simp at hf) (by kernel_rfl) h4
 have a0:=Xk0 (key 0 (-2) (-1) (by omega) rfl)
 have a1:=Xk0 (key 1 2 (-1) (by omega) rfl)
 have hv:=fun c=>World.var?_cell hg hvar c
 exact⟨(hv 0).trans a0.1,(hv 1).trans a0.2,(hv 2).trans a1.1,(hv 3).trans a1.2⟩
theorem ZG9 {H : Type} {enc : TypeId × Value → H} {P : Program} {w : World} {base : Nat} {spare : Nat → Bool} {held : Bool} {r : Reach} {b0 : Nat} {t : TypeId} {v : Value} {d : DataW H} {ps : List MemPlace} (ht : P.underlying t = some .bool) (hval : Value.okWide P w r b0 t v) (hd : DataW.Trod enc P w base spare held t v d ps) :
    ∃ b,v=.bool b/\d=.lit (.bool b)/\ps=[]:=by
 obtain⟨b,rfl⟩:=okWide_bool ht hval
 obtain⟨fuel,hf⟩:=hd
 cases fuel with
 |zero=>simp[DataW.trod]at hf
 |succ f=>
  simp[DataW.trod,Value.cells,ht]at hf
  exact⟨b,rfl,hf.1.symm,hf.2⟩
set_option maxRecDepth 100000 in
theorem contract (H : Type) (enc : TypeId × Value → H) (W : World) (base : Nat) (args : Array Value) (ds gs : List (DataW H)) (before : List MemPlace)
    (hval:∀ (j:Nat) t v,Tryd.f3.params[j]?=some t->args[j]?=some v->Value.okWide Tryd.prog W .any base t v)
    (hW:DataW.Whole enc Tryd.prog Tryd.f3.params.toList Rows.closureMarkovSpec.vars false W args.toList ds gs before)
    (hsz0:(DataW.weightsEach Tryd.prog (Tryd.f3.params.toList++(OpenSpec.ofChange Rows.closureMarkovSpec).bare.plain.varTypes Tryd.prog) (ds++gs)).all (·<=reachBytes)=true)
    (hL:laidMetH Tryd.prog Rows.closureMarkovRow.laid W):
    Calls Tryd.prog 3 args W fun e W'=>∃ v,e=.returned v/\Rows.closureMarkovSpec.post enc Tryd.prog Tryd.f3 false true false false W args v W':=by
 have hW':=hW
 obtain⟨p,q,hA0,hV,rfl,hfz,hnd⟩:=hW
 have hA:DataW.TrodAll enc Tryd.prog W 0 (fun _=>true) true Tryd.f3.params.toList args.toList ds p:=hA0
 rw[Tryd.params3]at hA hval
 obtain⟨v0,vs0,d0,ds0,p0,q0,hargs,rfl,rfl,h0,r0⟩:=trodAll_cons hA
 obtain⟨v1,vs1,d1,ds1,p1,q1,rfl,rfl,rfl,h1,r1⟩:=trodAll_cons r0
 obtain⟨v2,vs2,d2,ds2,p2,q2,rfl,rfl,rfl,h2,r2⟩:=trodAll_cons r1
 obtain⟨v3,vs3,d3,ds3,p3,q3,rfl,rfl,rfl,h3,r3⟩:=trodAll_cons r2
 obtain⟨rfl,rfl,rfl⟩:=trodAll_nil r3
 obtain rfl:args=#[v0,v1,v2,v3]:=by cases args;simp_all
 obtain⟨rfl,rfl⟩:=trodVars_none hV
 have hsz:(DataW.weightsEach Tryd.prog [3,22,22,4] [d0,d1,d2,d3]).all (·<=reachBytes)=true:=by
  rw[Tryd.params3]at hsz0
  exact hsz0
 have hw1:∀ n∈d1.weights Tryd.prog 22,n<=reachBytes:=fun n hn=>by
  have:=List.all_eq_true.1 hsz n (DataW.weights_mem_each (ts:=[3,22,22,4]) (ds:=[d0,d1,d2,d3]) (j:=1) (t:=22) rfl rfl n hn)
  simpa using this
 have hw2:∀ n∈d2.weights Tryd.prog 22,n<=reachBytes:=fun n hn=>by
  have:=List.all_eq_true.1 hsz n (DataW.weights_mem_each (ts:=[3,22,22,4]) (ds:=[d0,d1,d2,d3]) (j:=2) (t:=22) rfl rfl n hn)
  simpa using this
 have k1:=h1
 have k2:=h2
 have lt1:∀ x∈p1,x.block<W.heap.size:=by obtain⟨m,hm⟩:=k1;exact DataW.trod_lt m _ _ _ hm
 have lt2:∀ x∈p2,x.block<W.heap.size:=by obtain⟨m,hm⟩:=k2;exact DataW.trod_lt m _ _ _ hm
 obtain⟨a0,rfl,rfl,rfl,w0⟩:=open_int Tryd.underlying3 (hval 0 3 v0 rfl rfl) h0
 obtain⟨s1,n1,c1,rfl⟩:=okWide_slice Tryd.underlying22 (hval 1 22 v1 rfl rfl)
 obtain⟨fuel1,hf1⟩:=h1
 obtain⟨l1,hR1,-,hI1⟩:=Zy4 (v:=.slice s1 n1 c1) hf1 hw1
 obtain rfl:n1=l1.length:=by obtain⟨s,c,e,-⟩:=hR1;injection e
 obtain⟨s2,n2,c2,rfl⟩:=okWide_slice Tryd.underlying22 (hval 2 22 v2 rfl rfl)
 obtain⟨fuel2,hf2⟩:=h2
 obtain⟨l2,hR2,-,hI2⟩:=Zy4 (v:=.slice s2 n2 c2) hf2 hw2
 obtain rfl:n2=l2.length:=by obtain⟨s,c,e,-⟩:=hR2;injection e
 obtain⟨u3,rfl,rfl,rfl⟩:=ZG9 Tryd.underlying4 (hval 3 4 v3 rfl rfl) h3
 clear hA0
 refine(Poly.closureMarkov_any a0 s1 s2 c1 c2 l1 l2 u3 W (KA5 w0) hI1 hI2 hR1 hR2 (Kg7 hL)).mono fun e W' ⟨he,bel⟩=>?_
 subst he
 exact⟨_,rfl,_,_,_,[],_,[],hW',trodAll_mk1 (shut_bool Tryd.underlying4 _),trodAll_cons_mk (shut_int Tryd.underlying3 w0) (trodAll_cons_mk (Below.trod ZW9 (by kernel_rfl) (of_decide_eq_true (by kernel_rfl)) k1 bel lt1) (trodAll_cons_mk (Below.trod ZW9 (by kernel_rfl) (of_decide_eq_true (by kernel_rfl)) k2 bel lt2) (trodAll_cons_mk (shut_bool Tryd.underlying4 _) trodAll_mk0))),rfl,bel.frame _,fun h=>by cases h⟩
def KH7 (cs:Array Value):Obj->Obj
 |.cells _ t frozen=>.cells cs t frozen
 |o=>o
noncomputable def laidWorld (os:Os):World:=
 { World.holding Tryd.prog os ⟨#[],#[],[]⟩ with heap:=(World.holding Tryd.prog os ⟨#[],#[],[]⟩).heap.modify 0 (KH7 #[.int .i64 (-2),.int .i64 (-1),.int .i64 2,.int .i64 (-1)]) }
theorem KH8 (os:Os):laidMet Tryd.prog Rows.closureMarkovRow.laid ((laidWorld os).forCall (fun _ _=>0) ⟨#[],#[.int .i64 0,.slice none 0 0,.slice none 0 0,.bool false],[]⟩).memory:=
 laidMet_of_run' 8 (by kernel_rfl) (by kernel_rfl)
theorem reads (os:Os) {H:Type} (enc:TypeId×Value->H):∃ places,DataW.whole enc Tryd.prog ((laidWorld os).forCall (fun _ _=>0) ⟨#[],#[.int .i64 0,.slice none 0 0,.slice none 0 0,.bool false],[]⟩).memory Tryd.f3.params.toList Rows.closureMarkovSpec.vars false #[Value.int .i64 0,.slice none 0 0,.slice none 0 0,.bool false].toList 8=some ([.lit (.int .i64 0),.nil,.nil,.lit (.bool false)],[],places):=
 ⟨[],by kernel_rfl⟩
set_option maxRecDepth 100000 in
theorem lifted (os : Os) (started : os.Started) (H : Type) (enc : TypeId × Value → H) (F : Stop.Interp) :
    ReturnsInHanded {} Tryd.checked os 3 .any ((OpenSpec.ofChange Rows.closureMarkovSpec).preRow enc Tryd.prog Tryd.f3 Rows.closureMarkovRow.domain false Rows.closureMarkovRow.laid) (((OpenSpec.ofChange Rows.closureMarkovSpec).at F).post enc Tryd.prog Tryd.f3 false true false false):=by
 obtain⟨places,hx⟩:=reads os enc
 refine returnsInHanded_of_row (C:=Tryd.checked) (s:=OpenSpec.ofChange Rows.closureMarkovSpec) Jk7 started (by kernel_rfl) Tryd.func3
  (witness_row_at (enc := enc) (C := Tryd.checked) false (laidWorld os) #[.int .i64 0, .slice none 0 0, .slice none 0 0, .bool false] rfl (by kernel_rfl) (by kernel_rfl) (by kernel_rfl)
   (OpenSpec.preRow_of_cond 8 hx (by kernel_rfl) (fun k hk=>by cases hk) (by kernel_rfl) (KH8 os))) ?_
 intro W base args ds gs before hval hW _ _ hsz hL _ _
 exact contract H enc W base args ds gs before hval hW hsz hL
theorem said:Rows.ClosureMarkovSaid:=
 OpenClaim.holds_of_cond 3 Tryd.f3 rfl rfl rfl rfl rfl rfl rfl ⟨rfl,rfl,rfl,rfl,rfl⟩ rfl rfl rfl rfl rfl (by kernel_rfl) Tryd.func3 (by kernel_rfl)
  (of_decide_eq_true (by kernel_rfl)) (by unfold Func.isWrapper;first|(rw[if_pos (by decide +kernel)];kernel_rfl)|(rw[if_neg (by decide +kernel)];exact⟨rfl,rfl⟩))
  (fun os started H enc _ F=>by rw[OpenClaim.pre_eq_preRow];exact lifted os started H enc F)
theorem plain (f : FuncId) (fn : Func) (hf : Tryd.pinned.checked.prog.funcNamed "knotwork/knotworkkeep.ClosureMarkov" = some f) (hfn : Tryd.pinned.checked.prog.funcs[f]? = some fn) :
    false=Tryd.pinned.checked.prog.looks []/\∀ (j:Nat) t,fn.params[j]?=some t->Tryd.pinned.checked.prog.wantsStandIn t=false:=by
 obtain rfl : f = 3 := Option.some.inj ((show Tryd.prog.funcNamed "knotwork/knotworkkeep.ClosureMarkov" = some 3 by kernel_rfl).symm.trans hf) |>.symm
 obtain rfl:fn=Tryd.f3:=(Option.some.inj (Tryd.func3.symm.trans hfn)).symm
 refine⟨by kernel_rfl,fun j t ht=>?_⟩
 rw[Tryd.params3]at ht
 have h2:t=3∨t=22∨t=4:=by
  have h3:=Array.mem_of_getElem? ht
  simp only[List.mem_toArray,List.mem_cons,List.not_mem_nil,or_false]at h3
  rcases h3 with h|h|h|h
  · exact Or.inl h
  · exact Or.inr (Or.inl h)
  · exact Or.inr (Or.inl h)
  · exact Or.inr (Or.inr h)
 rcases h2 with rfl|rfl|rfl
 · exact(show Tryd.prog.wantsStandIn 3=false by kernel_rfl)
 · exact(show Tryd.prog.wantsStandIn 22=false by kernel_rfl)
 · exact(show Tryd.prog.wantsStandIn 4=false by kernel_rfl)
theorem closureMarkov_holds:Rows.ClosureMarkovCardSaid:=
 Claim7.holds_tied_plain_at .later [] _ _ _ _ said (fun _ h=>by cases h) (by kernel_rfl) (fun _ h=>by cases h) closureMarkov_row_tie rfl ⟨rfl,rfl⟩ (by kernel_rfl) rfl plain (by kernel_rfl)
#print axioms closureMarkov_holds
end Go.Proofs.YtjcagkgpbcdghaaDoor
