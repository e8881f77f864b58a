/- Several texts of the proof, one behind the other. -/
import Derived.Test.YthlmkoiilgjflaaInP
/- Lists of twists: which may be; the walks of tangle.size, ref.abs, tangle.refusal and ref.ListMay. -/
namespace Go.Proofs.Ythlmkoiilgjflaa
open Go.RowKit

/-- The first k numbers' sizes, together. -/
def szTo (l : List Int) : Nat → Nat
  | 0 => 0
  | k + 1 => szTo l k + (l.getD k 0).natAbs
/-- Is a number too great? -/
def wide (x : Int) : Bool := decide (x < -16) || decide (16 < x)
/-- What is wrong with a list of twists. -/
def listN (l : List Int) : Int := if l.any wide = true then 3 else if l.length % 2 = 0 ∨ 16 < szTo l l.length then 2 else 0
theorem wide_no {x : Int} (h : wide x = false) : -16 ≤ x ∧ x ≤ 16 := by
  simp only [wide, Bool.or_eq_false_iff, decide_eq_false_iff_not] at h
  omega
theorem wide_yes {x : Int} (h : x < -16 ∨ 16 < x) : wide x = true := by
  simp only [wide, Bool.or_eq_true, decide_eq_true_eq]
  exact h
theorem getD_memT {l : List Int} {i : Nat} (h : i < l.length) : l.getD i 0 ∈ l := by
  rw [List.getD_eq_getElem?_getD, List.getElem?_eq_getElem h]
  exact List.getElem_mem h
theorem szTo_le (l : List Int) (k : Nat) (h : ∀ j, j < k → -16 ≤ l.getD j 0 ∧ l.getD j 0 ≤ 16) : szTo l k ≤ 16 * k := by
  induction k with
  | zero => exact Nat.le_refl _
  | succ k ih =>
    have h1 := ih fun j hj => h j (by omega)
    have h2 := h k (by omega)
    simp only [szTo]
    omega
theorem listN_bad {l : List Int} {i : Nat} (h : i < l.length) (hb : l.getD i 0 < -16 ∨ 16 < l.getD i 0) : listN l = 3 := by
  unfold listN
  rw [if_pos (List.any_eq_true.2 ⟨_, getD_memT h, wide_yes hb⟩)]
theorem listN_good {l : List Int} (h : ∀ j, j < l.length → -16 ≤ l.getD j 0 ∧ l.getD j 0 ≤ 16) : listN l = if l.length % 2 = 0 ∨ 16 < szTo l l.length then 2 else 0 := by
  unfold listN
  rw [if_neg]
  intro hc
  obtain ⟨x, hx, hw⟩ := List.any_eq_true.1 hc
  obtain ⟨j, hj, rfl⟩ := List.getElem_of_mem hx
  have := h j hj
  rw [List.getD_eq_getElem?_getD, List.getElem?_eq_getElem hj] at this
  simp only [wide, Bool.or_eq_true, decide_eq_true_eq, Option.getD_some] at hw this
  omega
theorem listN_ok {l : List Int} (h : listN l = 0) : (∀ j, j < l.length → -16 ≤ l.getD j 0 ∧ l.getD j 0 ≤ 16) ∧ l.length % 2 = 1 ∧ szTo l l.length ≤ 16 := by
  unfold listN at h
  by_cases h1 : l.any wide = true
  · rw [if_pos h1] at h; cases h
  · rw [if_neg h1] at h
    by_cases h2 : l.length % 2 = 0 ∨ 16 < szTo l l.length
    · rw [if_pos h2] at h; cases h
    · refine ⟨fun j hj => wide_no ?_, by omega, by omega⟩
      cases e : wide (l.getD j 0) with
      | false => rfl
      | true => exact absurd (List.any_eq_true.2 ⟨_, getD_memT hj, e⟩) h1
/-- The number at place k. -/
theorem RdAt.intAt {w : World} {B : Nat} {a : Option Addr} {cap : Nat} {l : List Int} (h : RdAt w B 1 (.slice a l.length cap) l.length (intsV l)) (k : Nat) (hk : k < l.length) :
    ∃ b off, a = some ⟨b, off, none⟩ ∧ b < B ∧ w.cell? ⟨b, off + k, none⟩ = some (.int .i64 (l.getD k 0)) := by
  obtain ⟨a', cap', e, f⟩ := h
  injection e with e1 e2 e3
  obtain ⟨b, off, eb, hlt, hc⟩ := f (by omega)
  refine ⟨b, off, e1.trans eb, hlt, (hc k (by omega)).trans ?_⟩
  simp [intsV, List.getD, hk]

set_option maxHeartbeats 2000000 in
set_option maxRecDepth 100000 in
theorem absR_any (x : Int) (w : World) (h1 : -1000 ≤ x) (h2 : x ≤ 1000) :
    Calls Try.prog 11 #[.int .i64 x] w fun e w' => e = .returned (.int .i64 (x.natAbs : Int)) ∧ w' = w := by
  by_cases h0 : x < 0
  · have HE : Hid (-x = (x.natAbs : Int)) := (by omega : -x = (x.natAbs : Int))
    go_enter Try.func11, Try.ntmps11
    go_wp2
    go_ret
    exact ⟨ret_int HE.out, rfl⟩
  · have HE : Hid (x = (x.natAbs : Int)) := (by omega : x = (x.natAbs : Int))
    go_enter Try.func11, Try.ntmps11
    go_wp2
    go_ret
    exact ⟨ret_int HE.out, rfl⟩

end Go.Proofs.Ythlmkoiilgjflaa
/- Tables of numbers that are read. -/
namespace Go.Proofs.Ythlmkoiilgjflaa
open Go.RowKit

theorem RdAt.slots {w : World} {B n : Nat} {v : Value} {xs : List Value} (h : RdAt w B 1 v n xs) (hl : xs.length = n) : Slots w B v xs := by
  obtain ⟨a, cap, rfl, f⟩ := h
  subst hl
  refine ⟨a, cap, rfl, fun h0 => ?_⟩
  obtain ⟨b, off, rfl, hlt, hc⟩ := f h0
  refine ⟨b, off, rfl, hlt, fun i hi => ?_⟩
  rw [hc i (by omega)]
  simp [List.getD, hi]
/-- Lists of numbers, to be read. -/
def IntsRd (w : World) (B : Nat) (v : Value) (L : List (List Int)) : Prop := ∃ ys : List Value, ys.length = L.length ∧ RdAt w B 1 v L.length ys ∧ ∀ j, j < L.length → RdAt w B 1 (ys.getD j (.bool false)) (L.getD j []).length (intsV (L.getD j []))
theorem IntsRd.on {w w' : World} {B : Nat} {v : Value} {L : List (List Int)} (h : IntsRd w B v L) (hb : Below B w w') : IntsRd w' B v L := by
  obtain ⟨ys, hy, h1, h2⟩ := h
  exact ⟨ys, hy, h1.on hb, fun j hj => (h2 j hj).on hb⟩
theorem IntsRd.up {w w' : World} {v : Value} {L : List (List Int)} (h : IntsRd w w.heap.size v L) (hb : Below w.heap.size w w') : IntsRd w' w'.heap.size v L := by
  obtain ⟨ys, hy, h1, h2⟩ := h
  exact ⟨ys, hy, (h1.on hb).mono hb.size, fun j hj => ((h2 j hj).on hb).mono hb.size⟩
theorem IntsRd.len {w : World} {B : Nat} {v : Value} {L : List (List Int)} (h : IntsRd w B v L) : ∃ a cap, v = .slice a L.length cap := by
  obtain ⟨ys, hy, ⟨a, cap, e, -⟩, h2⟩ := h
  exact ⟨a, cap, e⟩
theorem IntsRd.row {w : World} {B : Nat} {a : Option Addr} {cap : Nat} {L : List (List Int)} (h : IntsRd w B (.slice a L.length cap) L) (j : Nat) (hj : j < L.length) :
    ∃ b off ar cr, a = some ⟨b, off, none⟩ ∧ b < B ∧ w.cell? ⟨b, off + j, none⟩ = some (.slice ar (L.getD j []).length cr) ∧ RdAt w B 1 (.slice ar (L.getD j []).length cr) (L.getD j []).length (intsV (L.getD j [])) := by
  obtain ⟨ys, hy, ⟨a', cap', e, f⟩, h2⟩ := h
  injection e with e1 e2 e3
  obtain ⟨b, off, eb, hlt, hc⟩ := f (by omega)
  have hr := h2 j hj
  obtain ⟨ar, cr, er, -⟩ := hr
  have hr := h2 j hj
  rw [er] at hr
  refine ⟨b, off, ar, cr, e1.trans eb, hlt, ?_, hr⟩
  rw [hc j (by omega), ← er]
  simp [List.getD, hy, hj]
theorem NatsRd.ints {w : World} {B : Nat} {v : Value} {L : List (List Nat)} (h : NatsRd w B v L) : IntsRd w B v (L.map fun l => l.map fun (x : Nat) => (x : Int)) := by
  obtain ⟨ys, hy, h1, h2⟩ := h
  have hg : ∀ j, j < L.length → (L.map fun l => l.map fun (x : Nat) => (x : Int)).getD j [] = (L.getD j []).map fun (x : Nat) => (x : Int) := fun j hj => by simp [List.getD, hj]
  refine ⟨ys, by simpa using hy, by simpa using h1, fun j hj => ?_⟩
  have hj' : j < L.length := by simpa using hj
  rw [hg j hj']
  have e : intsV ((L.getD j []).map fun (x : Nat) => (x : Int)) = nats (L.getD j []) := by simp [intsV, nats]
  rw [e, List.length_map]
  exact h2 j hj'

end Go.Proofs.Ythlmkoiilgjflaa
