/- Several texts of the proof, one behind the other. -/
import Derived.Test.YtlimfajjmhfnaaaGreatDoorF2
import Derived.Test.YtlimfajjmhfnaaaGreatDoorW5P
import Derived.Test.YtlimfajjmhfnaaaGreatDoorH7
/- The walk of ref.FacesOf. -/
namespace Go.Proofs.YtlimfajjmhfnaaaGreatDoor
open Go.RowKit

/-- Darts as values. -/
def dd (l : List Nat) : List (Nat × Bool) := l.map fun j => (dA j, dB j)
theorem dd_app (l : List Nat) (j : Nat) : dd (l ++ [j]) = dd l ++ [(dA j, dB j)] := by simp [dd]
theorem dd_len (l : List Nat) : (dd l).length = l.length := by simp [dd]
/-- Rows of darts of the call's own. -/
def DartsOwn (w : World) (B : Nat) (v : Value) (L : List (List Nat)) : Prop :=
  ∃ ys : List Value, ys.length = L.length ∧ w.ownsRow B 77 1 v ys.length ys ∧ ∀ j, j < L.length → w.ownsRow B 76 2 (ys.getD j (.bool false)) (L.getD j []).length (vflat (dd (L.getD j [])))
theorem infoDart : (Tryz.prog.info? 76).map (fun i => (i.zero, i.size, i.bytes)) = some (some (.agg #[.int .i64 0, .bool false]), 2, 16) := by kernel_rfl
theorem infoDarts : (Tryz.prog.info? 77).map (fun i => (i.zero, i.size, i.bytes)) = some (some (.slice none 0 0), 1, 24) := by kernel_rfl
theorem code_d {x : Nat} (_h : 1 ≤ x) : (if dB x = true then 2 * dA x + 1 else 2 * dA x) = x + 1 := by
  unfold dB dA
  split
  · rename_i hd; simp at hd; omega
  · rename_i hd; simp at hd; omega
theorem div_d {i : Nat} : ((i : Int) + 2).tdiv 2 = (dA (i + 1) : Int) := by
  unfold dA
  rw [Int.tdiv_eq_ediv_of_nonneg (by omega)]
  omega
theorem bools_at (seen : List Bool) (x : Nat) (h : x < seen.length) : (bools (false :: seen))[x + 1]? = some (.bool (seen.getD x true)) := by
  simp [bools, List.getD_eq_getElem?_getD, h]
theorem bools_put (seen : List Bool) (x : Nat) : (bools (false :: seen)).set (x + 1) (.bool true) = bools (false :: seen.set x true) := by
  simp [bools]
theorem walkF_pre (f : Nat → Nat) (m : Nat) (seen : List Bool) (x : Nat) (acc : List Nat) : acc.length ≤ (walkF f m seen x acc).1.length := by
  induction m generalizing seen x acc with
  | zero => exact Nat.le_refl _
  | succ m ih =>
    simp only [walkF]
    split
    · exact Nat.le_refl _
    · have := ih (seen.set x true) (f x) (acc ++ [x])
      simp only [List.length_append, List.length_cons, List.length_nil] at this
      omega
theorem new_cell2' {W : World} {s : Nat} (hs : s = W.heap.size) (a b : Value) (e : TypeId) : ∀ j u, [a, b][j]? = some u → (W.alloc (.cells #[a, b] e)).cell? ((⟨s, 0, none⟩ : Addr).add j) = some u := by
  intro j u hu
  subst hs
  have hg : (W.alloc (.cells #[a, b] e)).heap[W.heap.size]? = some (.cells #[a, b] e (0, 0)) := alloc_at rfl
  have hadd : ∀ j, (⟨W.heap.size, 0, none⟩ : Addr).add j = ⟨W.heap.size, j, none⟩ := fun j => by unfold Addr.add; split <;> simp_all
  rw [hadd, cell_of_row _ _ _ _ _ _ hg]
  simpa using hu
/-- Where FacesOf stands behind the darts up to i. -/
structure FcAt (w : World) (gS cS : Nat) (box : Array Value) (tb : TypeId) (n : Nat) (R : List (List Nat) × List Bool) (v3 : Value) (zs : List Value) (wr : World) : Prop where
  box : wr.heap[w.heap.size]? = some (.cells box tb (0, 0))
  seen : wr.ownsRow (w.heap.size + 1) 4 1 (.slice (some ⟨gS, 0, none⟩) (n + 2) cS) (n + 2) (bools (false :: R.2))
  len : zs.length = R.1.length
  rows : wr.ownsRow (w.heap.size + 1) 77 1 v3 zs.length zs
  each : ∀ j, j < zs.length → wr.ownsRow (w.heap.size + 1) 76 2 (zs.getD j (.bool false)) (R.1.getD j []).length (vflat (dd (R.1.getD j [])))
  bel : Below w.heap.size w wr

end Go.Proofs.YtlimfajjmhfnaaaGreatDoor
/- The walk of ref.PiecesOf. -/
namespace Go.Proofs.YtlimfajjmhfnaaaGreatDoor
open Go.RowKit

theorem made_zeroN (n : Nat) : (madeCells (Value.int .i64 0).cells (n * 1)).toList = nats (List.replicate n 0) := by
  have e : (Value.int .i64 0).cells = #[Value.int .i64 0] := rfl
  rw [e, toList_madeCells_one, Nat.mul_one]
  simp [nats]
theorem nats_set (l : List Nat) (i z : Nat) : (nats l).set i (.int .i64 (z : Nat)) = nats (l.set i z) := by simp [nats, List.map_set]
/-- The first i labels are laid. -/
def labTo (n i : Nat) : List Nat := (List.range n).map fun v => if v < i then v else 0
theorem labTo_zero (n : Nat) : List.replicate n 0 = labTo n 0 := by
  refine List.ext_getElem (by simp [labTo]) fun j h1 h2 => ?_
  simp [labTo]
theorem labTo_next (n i : Nat) : (labTo n i).set i i = labTo n (i + 1) := by
  refine List.ext_getElem (by simp [labTo]) fun j h1 h2 => ?_
  simp only [List.getElem_set, labTo, List.getElem_map, List.getElem_range]
  split
  · rename_i h; subst h; simp
  · rename_i h
    by_cases h3 : j < i
    · rw [if_pos h3, if_pos (by omega)]
    · rw [if_neg h3, if_neg (by omega)]
theorem labTo_all (n : Nat) : labTo n n = List.range n := by
  refine List.ext_getElem (by simp [labTo]) fun j h1 h2 => ?_
  simp only [labTo, List.getElem_map, List.getElem_range]
  rw [if_pos (by simpa [labTo] using h1)]
theorem arcE_next (C : List Cr) (i : Nat) (hi : i < 2 * C.length) : (arcE C).take (i + 1) = (arcE C).take i ++ [(enC C (i + 1) true, enC C (i + 1) false)] := by
  rw [List.take_add_one]
  congr 1
  simp [arcE, hi]
theorem levs_step (V : List Nat) (C : List Cr) (i : Nat) (hi : i < 2 * C.length) : levs V ((arcE C).take (i + 1)) = lev (levs V ((arcE C).take i)) (enC C (i + 1) true) (enC C (i + 1) false) := by
  rw [arcE_next C i hi, levs_app]
  rfl
theorem arcE_all (C : List Cr) : (arcE C).take (2 * C.length) = arcE C := List.take_of_length_le (by simp [arcE])

end Go.Proofs.YtlimfajjmhfnaaaGreatDoor
