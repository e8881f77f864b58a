/- Where canon.canonical stands. -/
import Derived.Test.YtiighhmgegkemaaC8
import Derived.Test.YtiighhmgegkemaaC10
import Derived.Test.YtiighhmgegkemaaS2
namespace Go.Proofs.Ytiighhmgegkemaa
open Go.RowKit Go.Maps

/-- The crossings of a list, their arcs numbered as they come. -/
def canGo (C : List Cr) : List Nat → List Nat → List Cr
  | _, [] => []
  | F, c :: os => canX F (C.getD c Cr.none) :: canGo C (addN F (C.getD c Cr.none) 4) os
def canF (C : List Cr) : List Nat → List Nat → List Nat
  | F, [] => F
  | F, c :: os => canF C (addN F (C.getD c Cr.none) 4) os
theorem canGo_len (C : List Cr) (F os : List Nat) : (canGo C F os).length = os.length := by
  induction os generalizing F with
  | nil => rfl
  | cons c os ih => simp [canGo, ih]
theorem canF_len (C : List Cr) (F os : List Nat) : (canF C F os).length ≤ F.length + 4 * os.length := by
  induction os generalizing F with
  | nil => simp [canF]
  | cons c os ih =>
    have h1 := ih (addN F (C.getD c Cr.none) 4)
    have h2 := addN_len F (C.getD c Cr.none) 4
    simp only [canF, List.length_cons]
    omega
theorem canGo_snoc (C : List Cr) (F os : List Nat) (c : Nat) : canGo C F (os ++ [c]) = canGo C F os ++ [canX (canF C F os) (C.getD c Cr.none)] := by
  induction os generalizing F with
  | nil => rfl
  | cons d os ih => simp [canGo, canF, ih]
theorem canF_snoc (C : List Cr) (F os : List Nat) (c : Nat) : canF C F (os ++ [c]) = addN (canF C F os) (C.getD c Cr.none) 4 := by
  induction os generalizing F with
  | nil => rfl
  | cons d os ih => simp [canF, ih]
structure CaAt (w : World) (D0 : Array Value) (loops : Int) (gL n : Nat) (vals : Nat → Value × Value) (L : Nat → List Nat) (σ F : List Nat) (acc : List Cr) (v : Value) (W : World) : Prop where
  out : OutAt W (w.heap.size + 5) (w.heap.size + 2) v loops acc
  map : MapA W (w.heap.size + 3) F
  dra : W.heap[w.heap.size]? = some (.cells D0 117 (0, 0))
  res : W.heap[w.heap.size + 1]? = some (.cells #[.slice none 0 0, .int .i64 0] 35 (0, 0))
  var : W.heap[w.heap.size + 4]? = some (.cells #[.map (some (w.heap.size + 3))] 105 (0, 0))
  row : W.ownsRow (w.heap.size + 5) 204 2 (.slice (some ⟨gL, 0, none⟩) n n) n (tvs vals σ)
  ord : ∀ p, W.ownsRow (w.heap.size + 5) 3 1 (vals p).1 (L p).length (nats (L p))
  bel : Below w.heap.size w W
section
variable {w : World} {D0 : Array Value} {loops : Int} {gL n : Nat} {vals : Nat → Value × Value} {L : Nat → List Nat} {σ F : List Nat} {acc : List Cr} {v : Value} {W : World}
theorem CaAt.sz (h : CaAt w D0 loops gL n vals L σ F acc v W) : w.heap.size + 5 ≤ W.heap.size := (Array.getElem?_eq_some_iff.1 h.var).1
theorem CaAt.any {W' : World} (h : CaAt w D0 loops gL n vals L σ F acc v W) (hg : W.grownBy W' none) : CaAt w D0 loops gL n vals L σ F acc v W' := by
  have hs := h.sz
  exact ⟨⟨(hg.block _ (by omega) (by simp)).trans h.out.box, own_any h.out.row hg⟩, h.map.kept hg (by simp), (hg.block _ (by omega) (by simp)).trans h.dra, (hg.block _ (by omega) (by simp)).trans h.res, (hg.block _ (by omega) (by simp)).trans h.var, own_any h.row hg, fun p => own_any (h.ord p) hg, h.bel.grown hg h.bel.size (fun q hq => by cases hq)⟩
theorem CaAt.call {W' : World} {F' : List Nat} (h : CaAt w D0 loops gL n vals L σ F acc v W) (hg : W.grownBy W' (some (w.heap.size + 3))) (hM : MapA W' (w.heap.size + 3) F') : CaAt w D0 loops gL n vals L σ F' acc v W' := by
  have hs := h.sz
  have hlow : ∀ {e s k : Nat} {u : Value} {xs : List Value}, W.ownsRow (w.heap.size + 5) e s u k xs → u.ownBlock = none ∨ u.ownBlock ≠ some (w.heap.size + 3) := fun ho => Or.inr (fun e => by have := (ho.lt _ e).1; omega)
  exact ⟨⟨(hg.block _ (by omega) (fun e => by have := Option.some.inj e; omega)).trans h.out.box, h.out.row.kept hg (hlow h.out.row)⟩, hM, (hg.block _ (by omega) (fun e => by have := Option.some.inj e; omega)).trans h.dra, (hg.block _ (by omega) (fun e => by have := Option.some.inj e; omega)).trans h.res, (hg.block _ (by omega) (fun e => by have := Option.some.inj e; omega)).trans h.var, h.row.kept hg (hlow h.row), fun p => (h.ord p).kept hg (hlow (h.ord p)), h.bel.grown hg h.bel.size (fun q hq => by have := Option.some.inj hq; omega)⟩
theorem CaAt.app {w8 : World} {v8 : Value} {x : Cr} {o : Obj} (h : CaAt w D0 loops gL n vals L σ F acc v W) (hown8 : w8.ownsRow (w.heap.size + 5) 61 5 v8 (acc.length + 1) (crossCells acc ++ crossCells [x])) (hg8 : (W.alloc o).grownBy w8 v.ownBlock) :
    CaAt w D0 loops gL n vals L σ F (acc ++ [x]) v8 (w8.setCell ⟨w.heap.size + 2, 0, none⟩ v8) := by
  have hs := h.sz
  have hS := set_grown w8 (w.heap.size + 2) 0 v8
  have hs8 := hg8.size
  simp only [World.size_alloc] at hs8
  have hvne : ∀ k, k < w.heap.size + 5 → some k ≠ v.ownBlock := fun k hk e => by have := (h.out.row.lt k e.symm).1; omega
  have hnone : W.grownBy (W.alloc o) none := World.grownBy_alloc _ _ _
  have hrow : ∀ {e s k : Nat} {u : Value} {xs : List Value}, W.ownsRow (w.heap.size + 5) e s u k xs → e ≠ 61 → (w8.setCell ⟨w.heap.size + 2, 0, none⟩ v8).ownsRow (w.heap.size + 5) e s u k xs := fun ho he => by
    have h1 := own_any ho hnone
    have h2 := h1.kept hg8 (own_ne h1 (own_any h.out.row hnone) he)
    exact h2.kept hS (Or.inr (fun e => by have := (h2.lt _ e).1; omega))
  exact ⟨h.out.app (by omega) rfl hown8 hg8, (((h.map.kept hnone (by simp)).kept hg8 (fun e => hvne _ (by omega) e.symm))).kept hS (fun e => by have := Option.some.inj e; omega), h.out.other h.dra (by omega) (by omega) hg8, h.out.other h.res (by omega) (by omega) hg8, h.out.other h.var (by omega) (by omega) hg8, hrow h.row (by decide), fun p => hrow (h.ord p) (by decide), h.out.below h.bel (by omega) (by omega) (by omega) hg8⟩
end
end Go.Proofs.Ytiighhmgegkemaa
