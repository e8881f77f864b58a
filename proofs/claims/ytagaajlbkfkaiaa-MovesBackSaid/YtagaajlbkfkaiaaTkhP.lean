/- Several texts of the proof, one behind the other. -/
import Derived.Test.YtagaajlbkfkaiaaBaseP
import Derived.Deep.RegionHeld
import Derived.Test.YtagaajlbkfkaiaaW2P
/- One operation of a region that draws its order is taken: its premises are paid by themselves. -/
namespace Go.Proofs.Ytagaajlbkfkaiaa
open Go.RowKit
theorem tk {P:Program} {md:Region.Mode} {ops:Array Oper} {Q:Exit->Act->World->Prop} {S:World->Prop} (i:Nat) {oi:Oper} {v:Value} {fuel:Nat} {listed:Array Bool} {a:Act} {w:World} (hS:S w:=by assumption)
    (hi:ops[i]?=some oi:=by rfl) (hs:Region.noSelect ops=true:=by kernel_rfl) (hf:Region.free md ops listed i=true:=by kernel_rfl) (hr:(Region.ready md ops listed).contains i=true:=by kernel_rfl)
    (hQ:∀ c a w,Q (.panic c) (a.put oi.dst v) w->Q (.panic c) a w:=by exact fun _ _ _ h=>h) (hw:Region.wanted oi (yielded ops a.tmps)=true:=by rfl)
    (hy:∀ w,S w->(execOp a.eval oi).run P w=.ok (.value v) w:=by intro w hSw;(try dsimp only at hSw);go_simp;(try with_reducible rfl))
    (h:wpAnyH P md ops Q S fuel (listed.setIfInBounds i true) (a.put oi.dst v) w):wpAnyH P md ops Q S (fuel+1) listed a w:=
 wpAnyH_take hi hs hf hr hQ (Or.inl ⟨hw,hy⟩) hS h
theorem rd1 {P:Program} {md:Region.Mode} {ops:Array Oper} {Q:Exit->Act->World->Prop} {S:World->Prop} (i:Nat) {o:Oper} {fuel:Nat} {listed:Array Bool} {a:Act} {w:World} (h:∀ K':Act->World->Prop,Shut (∀ a w,S w->(S w->wpAnyH P md ops Q S fuel (listed.setIfInBounds i true) a w)->K' a w)->if Region.wanted o (yielded ops a.tmps)=true then Oper.wp P o a w K' Q else K' (a.put o.dst undef) w) (hr:Region.ready md ops listed=[i]:=by kernel_rfl) (ho:ops[i]?=some o:=by rfl):wpAnyH P md ops Q S (fuel+1) listed a w:=
 wpAnyH_ready hr (by simp) (AllReadyH.cons ho h AllReadyH.nil)
theorem rd2 {P:Program} {md:Region.Mode} {ops:Array Oper} {Q:Exit->Act->World->Prop} {S:World->Prop} (i j:Nat) {o p:Oper} {fuel:Nat} {listed:Array Bool} {a:Act} {w:World} (h:∀ K':Act->World->Prop,Shut (∀ a w,S w->(S w->wpAnyH P md ops Q S fuel (listed.setIfInBounds i true) a w)->K' a w)->if Region.wanted o (yielded ops a.tmps)=true then Oper.wp P o a w K' Q else K' (a.put o.dst undef) w) (k:∀ K':Act->World->Prop,Shut (∀ a w,S w->(S w->wpAnyH P md ops Q S fuel (listed.setIfInBounds j true) a w)->K' a w)->if Region.wanted p (yielded ops a.tmps)=true then Oper.wp P p a w K' Q else K' (a.put p.dst undef) w) (hr:Region.ready md ops listed=[i,j]:=by kernel_rfl) (ho:ops[i]?=some o:=by rfl) (hp:ops[j]?=some p:=by rfl):wpAnyH P md ops Q S (fuel+1) listed a w:=
 wpAnyH_ready hr (by simp) (AllReadyH.cons ho h (AllReadyH.cons hp k AllReadyH.nil))
theorem rd3 {P:Program} {md:Region.Mode} {ops:Array Oper} {Q:Exit->Act->World->Prop} {S:World->Prop} (i j l:Nat) {o p q:Oper} {fuel:Nat} {listed:Array Bool} {a:Act} {w:World} (h:∀ K':Act->World->Prop,Shut (∀ a w,S w->(S w->wpAnyH P md ops Q S fuel (listed.setIfInBounds i true) a w)->K' a w)->if Region.wanted o (yielded ops a.tmps)=true then Oper.wp P o a w K' Q else K' (a.put o.dst undef) w) (k:∀ K':Act->World->Prop,Shut (∀ a w,S w->(S w->wpAnyH P md ops Q S fuel (listed.setIfInBounds j true) a w)->K' a w)->if Region.wanted p (yielded ops a.tmps)=true then Oper.wp P p a w K' Q else K' (a.put p.dst undef) w) (m:∀ K':Act->World->Prop,Shut (∀ a w,S w->(S w->wpAnyH P md ops Q S fuel (listed.setIfInBounds l true) a w)->K' a w)->if Region.wanted q (yielded ops a.tmps)=true then Oper.wp P q a w K' Q else K' (a.put q.dst undef) w) (hr:Region.ready md ops listed=[i,j,l]:=by kernel_rfl) (ho:ops[i]?=some o:=by rfl) (hp:ops[j]?=some p:=by rfl) (hq:ops[l]?=some q:=by rfl):wpAnyH P md ops Q S (fuel+1) listed a w:=
 wpAnyH_ready hr (by simp) (AllReadyH.cons ho h (AllReadyH.cons hp k (AllReadyH.cons hq m AllReadyH.nil)))
theorem rhd {P:Program} {ops:Array Oper} {Q:Exit->Act->World->Prop} {R S:World->Prop} {id:Nat} {a:Act} {w:World} (HS:Hid (∀ W,R W->S W)) (hr:R w.drew) (h:S w.drew->wpAnyH P .any ops Q S ops.size (Array.replicate ops.size false) a w.drew) (hm:P.follows .mixedOrders=true:=by kernel_rfl):(Code.region id ops true).wp P Q a w:=
 wp_region_held_drew hm (HS.out _ hr) h
theorem tq {P:Program} {md:Region.Mode} {ops:Array Oper} {Q:Exit->Act->World->Prop} {S:World->Prop} (d i:Nat) {oi:Oper} {v:Value} {fuel:Nat} {listed:Array Bool} {ts:Array Value} {ds:List Deferred} {w:World} (hS:S w:=by assumption)
    (hi:ops[i]?=some oi:=by rfl) (hd:oi.dst=some d:=by rfl) (hs:Region.noSelect ops=true:=by kernel_rfl) (hf:Region.free md ops listed i=true:=by kernel_rfl) (hr:(Region.ready md ops listed).contains i=true:=by kernel_rfl)
    (hQ:∀ c a w,Q (.panic c) (Act.put a oi.dst v) w->Q (.panic c) a w:=by exact fun _ _ _ h=>h) (hw:Region.wanted oi (yielded ops ts)=true:=by rfl)
    (hy:∀ w,S w->(execOp (Act.eval { tmps:=ts,defers:=ds }) oi).run P w=.ok (.value v) w:=by intro w hSw;(try dsimp only at hSw);go_simp;(try with_reducible rfl))
    (h:wpAnyH P md ops Q S fuel (listed.setIfInBounds i true) { tmps:=ts.setIfInBounds d v,defers:=ds } w):wpAnyH P md ops Q S (fuel+1) listed { tmps:=ts,defers:=ds } w:=by
 refine wpAnyH_take hi hs hf hr hQ (Or.inl ⟨hw,hy⟩) hS ?_
 rw[hd]
 exact h
end Go.Proofs.Ytagaajlbkfkaiaa
/- Orders of a region that makes two boxes beside its calls: what every order keeps. -/
namespace Go.Proofs.Ytagaajlbkfkaiaa
open Go.RowKit
structure Mk (n:Nat) (p:Prop):Prop where
 out:n=n/\p
theorem mk_ (n:Nat) {p:Prop} (h:p):Mk n p:=⟨rfl,h⟩
theorem hidN {P:Prop} (h:P):Hid P:=h
theorem rm1 {P:Program} {md:Region.Mode} {ops:Array Oper} {Q:Exit->Act->World->Prop} {S:World->Prop} (i:Nat) {o:Oper} {fuel:Nat} {listed:Array Bool} {a:Act} {w:World} (h:∀ K':Act->World->Prop,Shut (∀ a w,S w->(S w->wpAnyH P md ops Q S fuel (listed.setIfInBounds i true) a w)->K' a w)->Mk i (if Region.wanted o (yielded ops a.tmps)=true then Oper.wp P o a w K' Q else K' (a.put o.dst undef) w)) (hr:Region.ready md ops listed=[i]:=by kernel_rfl) (ho:ops[i]?=some o:=by rfl):wpAnyH P md ops Q S (fuel+1) listed a w:=
 rd1 i (fun K hK=>(h K hK).out.2) hr ho
theorem rm2 {P:Program} {md:Region.Mode} {ops:Array Oper} {Q:Exit->Act->World->Prop} {S:World->Prop} (i j:Nat) {o p:Oper} {fuel:Nat} {listed:Array Bool} {a:Act} {w:World} (h:∀ K':Act->World->Prop,Shut (∀ a w,S w->(S w->wpAnyH P md ops Q S fuel (listed.setIfInBounds i true) a w)->K' a w)->Mk i (if Region.wanted o (yielded ops a.tmps)=true then Oper.wp P o a w K' Q else K' (a.put o.dst undef) w)) (k:∀ K':Act->World->Prop,Shut (∀ a w,S w->(S w->wpAnyH P md ops Q S fuel (listed.setIfInBounds j true) a w)->K' a w)->Mk j (if Region.wanted p (yielded ops a.tmps)=true then Oper.wp P p a w K' Q else K' (a.put p.dst undef) w)) (hr:Region.ready md ops listed=[i,j]:=by kernel_rfl) (ho:ops[i]?=some o:=by rfl) (hp:ops[j]?=some p:=by rfl):wpAnyH P md ops Q S (fuel+1) listed a w:=
 rd2 i j (fun K hK=>(h K hK).out.2) (fun K hK=>(k K hK).out.2) hr ho hp
theorem rm3 {P:Program} {md:Region.Mode} {ops:Array Oper} {Q:Exit->Act->World->Prop} {S:World->Prop} (i j l:Nat) {o p q:Oper} {fuel:Nat} {listed:Array Bool} {a:Act} {w:World} (h:∀ K':Act->World->Prop,Shut (∀ a w,S w->(S w->wpAnyH P md ops Q S fuel (listed.setIfInBounds i true) a w)->K' a w)->Mk i (if Region.wanted o (yielded ops a.tmps)=true then Oper.wp P o a w K' Q else K' (a.put o.dst undef) w)) (k:∀ K':Act->World->Prop,Shut (∀ a w,S w->(S w->wpAnyH P md ops Q S fuel (listed.setIfInBounds j true) a w)->K' a w)->Mk j (if Region.wanted p (yielded ops a.tmps)=true then Oper.wp P p a w K' Q else K' (a.put p.dst undef) w)) (m:∀ K':Act->World->Prop,Shut (∀ a w,S w->(S w->wpAnyH P md ops Q S fuel (listed.setIfInBounds l true) a w)->K' a w)->Mk l (if Region.wanted q (yielded ops a.tmps)=true then Oper.wp P q a w K' Q else K' (a.put q.dst undef) w)) (hr:Region.ready md ops listed=[i,j,l]:=by kernel_rfl) (ho:ops[i]?=some o:=by rfl) (hp:ops[j]?=some p:=by rfl) (hq:ops[l]?=some q:=by rfl):wpAnyH P md ops Q S (fuel+1) listed a w:=
 rd3 i j l (fun K hK=>(h K hK).out.2) (fun K hK=>(k K hK).out.2) (fun K hK=>(m K hK).out.2) hr ho hp hq
def Nd (z:Obj) (Z W:World) (c:Nat) (g h:Option Nat):Prop:=c=c/\Below Z.heap.size Z W/\(∀ k,g=some k->W.heap[k]?=some z/\Z.heap.size<=k)/\(∀ k,h=some k->W.heap[k]?=some z/\Z.heap.size<=k)/\∀ k l,g=some k->h=some l->k≠l
theorem Nd.st {z:Obj} {Z W:World} (h:Below Z.heap.size Z W):Nd z Z W 0 none none:=
 ⟨rfl,h,fun _ e=>(by cases e),fun _ e=>(by cases e),fun _ _ e=>(by cases e)⟩
theorem Nd.up {z:Obj} {Z W W':World} {c:Nat} {g h:Option Nat} (a:Nd z Z W c g h) (hb:Below W.heap.size W W') (d:Nat):Nd z Z W' d g h:=
 have hl {k:Nat} (e:W.heap[k]?=some z/\Z.heap.size<=k):W'.heap[k]?=some z/\Z.heap.size<=k:=⟨(hb.block _ (Array.getElem?_eq_some_iff.1 e.1).1).trans e.1,e.2⟩
 ⟨rfl,a.2.1.trans (hb.mono a.2.1.size),fun k e=>hl (a.2.2.1 k e),fun k e=>hl (a.2.2.2.1 k e),a.2.2.2.2⟩
theorem Nd.on {z:Obj} {Z W W':World} {c:Nat} {g h:Option Nat} (a:Nd z Z W c g h) (hb:Below W.heap.size W W'):Nd z Z W' (c+1) g h:=a.up hb _
theorem Nd.al0 {z:Obj} {Z W:World} {c:Nat} {h:Option Nat} (a:Nd z Z W c none h):Nd z Z (W.alloc z) c (some W.heap.size) h:=
 have q:=a.up ((Below.refl _ _).alloc (Nat.le_refl _) z) c
 ⟨rfl,q.2.1,fun k e=>by obtain rfl:=Option.some.inj e;exact⟨alloc_at rfl,a.2.1.size⟩,q.2.2.2.1,fun k l e f=>by
  obtain rfl:=Option.some.inj e
  have:=(Array.getElem?_eq_some_iff.1 (a.2.2.2.1 l f).1).1
  omega⟩
theorem Nd.al1 {z:Obj} {Z W:World} {c:Nat} {g:Option Nat} (a:Nd z Z W c g none):Nd z Z (W.alloc z) c g (some W.heap.size):=
 have q:=a.up ((Below.refl _ _).alloc (Nat.le_refl _) z) c
 ⟨rfl,q.2.1,q.2.2.1,fun k e=>by obtain rfl:=Option.some.inj e;exact⟨alloc_at rfl,a.2.1.size⟩,fun k l e f=>by
  obtain rfl:=Option.some.inj f
  have:=(Array.getElem?_eq_some_iff.1 (a.2.2.1 k e).1).1
  omega⟩
theorem Nd.fin {z:Obj} {Z W W':World} {c g h g' h':Nat} (a:Nd z Z W c (some g) (some h)) (hW:W=W') (hg:g=g') (hh:h=h'):W'.heap[g']?=some z/\W'.heap[h']?=some z/\g'≠h'/\Z.heap.size<=g'/\Z.heap.size<=h'/\Below Z.heap.size Z W':=by
 subst hW hg hh
 exact⟨(a.2.2.1 _ rfl).1,(a.2.2.2.1 _ rfl).1,a.2.2.2.2 _ _ rfl rfl,(a.2.2.1 _ rfl).2,(a.2.2.2.1 _ rfl).2,a.2.1⟩
end Go.Proofs.Ytagaajlbkfkaiaa
