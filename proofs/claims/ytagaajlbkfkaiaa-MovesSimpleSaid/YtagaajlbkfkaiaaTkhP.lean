/- Several texts of the proof, one behind the other. -/
import Derived.Test.YtagaajlbkfkaiaaBaseP
import Derived.Deep.RegionHeld
import Derived.Test.YtagaajlbkfkaiaaW2P
/- One operation of a region that draws its order is taken: its premises are paid by themselves. -/
namespace Go.Proofs.Ytagaajlbkfkaiaa
open Go.RowKit

theorem tk {P : Program} {md : Region.Mode} {ops : Array Oper} {Q : Exit → Act → World → Prop} {S : World → Prop} (i : Nat) {oi : Oper} {v : Value} {fuel : Nat} {listed : Array Bool} {a : Act} {w : World} (hS : S w := by assumption)
    (hi : ops[i]? = some oi := by rfl) (hs : Region.noSelect ops = true := by kernel_rfl) (hf : Region.free md ops listed i = true := by kernel_rfl) (hr : (Region.ready md ops listed).contains i = true := by kernel_rfl)
    (hQ : ∀ c a w, Q (.panic c) (a.put oi.dst v) w → Q (.panic c) a w := by exact fun _ _ _ h => h) (hw : Region.wanted oi (yielded ops a.tmps) = true := by rfl)
    (hy : ∀ w, S w → (execOp a.eval oi).run P w = .ok (.value v) w := by intro w hSw; (try dsimp only at hSw); go_simp; (try with_reducible rfl))
    (h : wpAnyH P md ops Q S fuel (listed.setIfInBounds i true) (a.put oi.dst v) w) : wpAnyH P md ops Q S (fuel + 1) listed a w :=
  wpAnyH_take hi hs hf hr hQ (Or.inl ⟨hw, hy⟩) hS h
theorem rd1 {P : Program} {md : Region.Mode} {ops : Array Oper} {Q : Exit → Act → World → Prop} {S : World → Prop} (i : Nat) {o : Oper} {fuel : Nat} {listed : Array Bool} {a : Act} {w : World} (h : ∀ K' : Act → World → Prop, Shut (∀ a w, S w → (S w → wpAnyH P md ops Q S fuel (listed.setIfInBounds i true) a w) → K' a w) → if Region.wanted o (yielded ops a.tmps) = true then Oper.wp P o a w K' Q else K' (a.put o.dst undef) w) (hr : Region.ready md ops listed = [i] := by kernel_rfl) (ho : ops[i]? = some o := by rfl) : wpAnyH P md ops Q S (fuel + 1) listed a w :=
  wpAnyH_ready hr (by simp) (AllReadyH.cons ho h AllReadyH.nil)
theorem tq {P : Program} {md : Region.Mode} {ops : Array Oper} {Q : Exit → Act → World → Prop} {S : World → Prop} (d i : Nat) {oi : Oper} {v : Value} {fuel : Nat} {listed : Array Bool} {ts : Array Value} {ds : List Deferred} {w : World} (hS : S w := by assumption)
    (hi : ops[i]? = some oi := by rfl) (hd : oi.dst = some d := by rfl) (hs : Region.noSelect ops = true := by kernel_rfl) (hf : Region.free md ops listed i = true := by kernel_rfl) (hr : (Region.ready md ops listed).contains i = true := by kernel_rfl)
    (hQ : ∀ c a w, Q (.panic c) (Act.put a oi.dst v) w → Q (.panic c) a w := by exact fun _ _ _ h => h) (hw : Region.wanted oi (yielded ops ts) = true := by rfl)
    (hy : ∀ w, S w → (execOp (Act.eval { tmps := ts, defers := ds }) oi).run P w = .ok (.value v) w := by intro w hSw; (try dsimp only at hSw); go_simp; (try with_reducible rfl))
    (h : wpAnyH P md ops Q S fuel (listed.setIfInBounds i true) { tmps := ts.setIfInBounds d v, defers := ds } w) : wpAnyH P md ops Q S (fuel + 1) listed { tmps := ts, defers := ds } w := by
  refine wpAnyH_take hi hs hf hr hQ (Or.inl ⟨hw, hy⟩) hS ?_
  rw [hd]
  exact h
end Go.Proofs.Ytagaajlbkfkaiaa
/- Orders of a region that makes two boxes beside its calls: what every order keeps. -/
namespace Go.Proofs.Ytagaajlbkfkaiaa
open Go.RowKit

/-- Boxes z at g and h, where they are made, behind all of Z. -/
def Nd (z : Obj) (Z W : World) (c : Nat) (g h : Option Nat) : Prop := c = c ∧ Below Z.heap.size Z W ∧ (∀ k, g = some k → W.heap[k]? = some z ∧ Z.heap.size ≤ k) ∧ (∀ k, h = some k → W.heap[k]? = some z ∧ Z.heap.size ≤ k) ∧ ∀ k l, g = some k → h = some l → k ≠ l
theorem Nd.st {z : Obj} {Z W : World} (h : Below Z.heap.size Z W) : Nd z Z W 0 none none :=
  ⟨rfl, h, fun _ e => (by cases e), fun _ e => (by cases e), fun _ _ e => (by cases e)⟩
theorem Nd.up {z : Obj} {Z W W' : World} {c : Nat} {g h : Option Nat} (a : Nd z Z W c g h) (hb : Below W.heap.size W W') (d : Nat) : Nd z Z W' d g h :=
  have hl {k : Nat} (e : W.heap[k]? = some z ∧ Z.heap.size ≤ k) : W'.heap[k]? = some z ∧ Z.heap.size ≤ k := ⟨(hb.block _ (Array.getElem?_eq_some_iff.1 e.1).1).trans e.1, e.2⟩
  ⟨rfl, a.2.1.trans (hb.mono a.2.1.size), fun k e => hl (a.2.2.1 k e), fun k e => hl (a.2.2.2.1 k e), a.2.2.2.2⟩
theorem Nd.on {z : Obj} {Z W W' : World} {c : Nat} {g h : Option Nat} (a : Nd z Z W c g h) (hb : Below W.heap.size W W') : Nd z Z W' (c + 1) g h := a.up hb _
end Go.Proofs.Ytagaajlbkfkaiaa
