/- Several texts of the proof, one behind the other. -/
import Derived.Test.YthlmkoiilgjflaaW6P
/- The walk of gauss.signs; rows of visits and of signs that are the same. -/
namespace Go.Proofs.Ythlmkoiilgjflaa
open Go.RowKit

/-- The signs of the crossings. -/
def plusM (C : List Cr) : List Bool := C.map Cr.plus
def plusTo (C : List Cr) (i : Nat) : List Bool := plusM (C.take i) ++ List.replicate (C.length - i) false
theorem plus_len (C : List Cr) (i : Nat) (h : i ≤ C.length) : (plusTo C i).length = C.length := by simp [plusTo, plusM]; omega
theorem plus_next (C : List Cr) (i : Nat) (h : i < C.length) : (plusTo C i).set i (C.getD i Cr.none).plus = plusTo C (i + 1) := by
  unfold plusTo plusM
  rw [List.set_append_right _ _ (by simp; omega)]
  have e : C.length - i = (C.length - (i + 1)) + 1 := by omega
  have e2 : C.take (i + 1) = C.take i ++ [C.getD i Cr.none] := by
    rw [List.take_add_one, List.getD_eq_getElem?_getD, List.getElem?_eq_getElem h]
    rfl
  rw [e2, List.map_append, e, List.replicate_succ]
  simp [Nat.min_eq_left (Nat.le_of_lt h)]
theorem plus_all (C : List Cr) : plusTo C C.length = plusM C := by simp [plusTo]

/-- A list of visits as one looks at it. -/
def VS (w : World) (v : Value) (V : List (Nat × Bool)) : Prop := ∃ a cap, v = .slice a V.length cap ∧ (0 < V.length → ∃ b off, a = some ⟨b, off, none⟩ ∧ b < w.heap.size ∧ ∀ i, i < V.length → w.cell? ⟨b, off + i * 2, none⟩ = some (.int .i64 ((V.getD i (0, false)).1 : Nat)) ∧ w.cell? ⟨b, off + i * 2 + 1, none⟩ = some (.bool (V.getD i (0, false)).2))
def VsAt (w : World) (v : Value) (L : List (List (Nat × Bool))) : Prop := ∃ ys : List Value, ys.length = L.length ∧ Slots w w.heap.size v ys ∧ ∀ j, j < L.length → VS w (ys.getD j (.bool false)) (L.getD j [])
theorem vs_own {w : World} {B e : Nat} {v : Value} {V : List (Nat × Bool)} (h : w.ownsRow B e 2 v V.length (vflat V)) : VS w v V := by
  have h0 := h
  rcases h.2 with ⟨rfl, h1⟩ | ⟨g, cap, cur, rfl, _, _, _⟩
  · exact ⟨none, 0, by rw [h1], fun hp => by omega⟩
  · refine ⟨some ⟨g, 0, none⟩, cap, rfl, fun _ => ⟨g, 0, rfl, (h0.lt g rfl).2, fun i hi => ?_⟩⟩
    have g0 := vflat_get V i hi
    rw [Nat.zero_add]
    exact ⟨(h0.cellAt (i * 2) (by omega)).trans g0.1, (h0.cellAt (i * 2 + 1) (by omega)).trans g0.2⟩
theorem VS.on {w w' : World} {v : Value} {V : List (Nat × Bool)} (h : VS w v V) (hb : Below w.heap.size w w') : VS w' v V := by
  obtain ⟨a, cap, rfl, g⟩ := h
  refine ⟨a, cap, rfl, fun hp => ?_⟩
  obtain ⟨b, off, rfl, hlt, hc⟩ := g hp
  exact ⟨b, off, rfl, Nat.lt_of_lt_of_le hlt hb.size, fun i hi => ⟨bcell hb hlt (hc i hi).1, bcell hb hlt (hc i hi).2⟩⟩
theorem VsAt.on {w w' : World} {v : Value} {L : List (List (Nat × Bool))} (h : VsAt w v L) (hb : Below w.heap.size w w') : VsAt w' v L := by
  obtain ⟨ys, h1, h2, h3⟩ := h
  exact ⟨ys, h1, (h2.on hb).mono hb.size, fun j hj => (h3 j hj).on hb⟩

end Go.Proofs.Ythlmkoiilgjflaa
/- Lists of whole numbers that a call owns; the walk of gauss.evenNumbers. -/
namespace Go.Proofs.Ythlmkoiilgjflaa
open Go.RowKit

def intsV (l : List Int) : List Value := l.map fun x => .int .i64 x
theorem intsV_len (l : List Int) : (intsV l).length = l.length := by simp [intsV]
theorem intsV_get (l : List Int) (i : Nat) (h : i < l.length) : (intsV l)[i]? = some (.int .i64 (l.getD i 0)) := by simp [intsV, List.getD, h]
theorem intsV_set (l : List Int) (i : Nat) (x : Int) : (intsV l).set i (.int .i64 x) = intsV (l.set i x) := by simp [intsV, List.map_set]
theorem intsV_app (l : List Int) (x : Int) : intsV (l ++ [x]) = intsV l ++ [.int .i64 x] := by simp [intsV]
theorem made_zero (n : Nat) : (madeCells (Value.int .i64 0).cells (n * 1)).toList = intsV (List.replicate n 0) := by
  have e : (Value.int .i64 0).cells = #[Value.int .i64 0] := rfl
  rw [e, toList_madeCells_one, Nat.mul_one]
  simp [intsV]
/-- The even numbers of all crossings, behind j even visits. -/
def evL (x : Nat → Nat) (o : Nat → Bool) (n j : Nat) : List Int := (List.range n).map fun c => evTo x o c j
theorem evL_len (x : Nat → Nat) (o : Nat → Bool) (n j : Nat) : (evL x o n j).length = n := by simp [evL]
theorem evL_at (x : Nat → Nat) (o : Nat → Bool) (n j c : Nat) (h : c < n) : (evL x o n j).getD c 0 = evTo x o c j := by simp [evL, List.getD, h]
theorem evL_zero (x : Nat → Nat) (o : Nat → Bool) (n : Nat) : evL x o n 0 = List.replicate n 0 := by
  unfold evL
  simp only [evTo]
  rw [List.map_const', List.length_range]
theorem evL_next (x : Nat → Nat) (o : Nat → Bool) (n j c : Nat) (h : x (2 * j + 1) = c) (hc : c < n) : (evL x o n j).set c (evN o j) = evL x o n (j + 1) := by
  apply List.ext_getElem?
  intro i
  rw [List.getElem?_set]
  by_cases hi : i < n
  · by_cases e : c = i
    · subst e
      simp [evL, evTo, h, hc]
    · rw [if_neg e]
      simp [evL, hi, evTo, h, e]
  · rw [List.getElem?_eq_none (by rw [evL_len]; omega), List.getElem?_eq_none (by rw [evL_len]; omega)]
    split
    · split
      · next h1 => rw [evL_len] at h1; omega
      · rfl
    · rfl
theorem evTo_le (x : Nat → Nat) (o : Nat → Bool) (c j : Nat) : -(2 * (j : Int)) ≤ evTo x o c j ∧ evTo x o c j ≤ 2 * (j : Int) := by
  induction j with
  | zero => simp [evTo]
  | succ j ih =>
    simp only [evTo, evN]
    split
    · split <;> omega
    · omega
/-- The visits of a list, place by place. -/
def vX (V : List (Nat × Bool)) (p : Nat) : Nat := (V.getD p (0, false)).1
def vO (V : List (Nat × Bool)) (p : Nat) : Bool := (V.getD p (0, false)).2

end Go.Proofs.Ythlmkoiilgjflaa
