/- Tables of numbers that are read. -/
import Derived.Test.YtdlmhcickcgnfaaIn
namespace Go.Proofs.Ytdlmhcickcgnfaa
open Go.RowKit

theorem RdAt.slots {w : World} {B n : Nat} {v : Value} {xs : List Value} (h : RdAt w B 1 v n xs) (hl : xs.length = n) : Slots w B v xs := by
  obtain ⟨a, cap, rfl, f⟩ := h
  subst hl
  refine ⟨a, cap, rfl, fun h0 => ?_⟩
  obtain ⟨b, off, rfl, hlt, hc⟩ := f h0
  refine ⟨b, off, rfl, hlt, fun i hi => ?_⟩
  rw [hc i (by omega)]
  simp [List.getD, hi]
/-- Lists of numbers, to be read. -/
def IntsRd (w : World) (B : Nat) (v : Value) (L : List (List Int)) : Prop := ∃ ys : List Value, ys.length = L.length ∧ RdAt w B 1 v L.length ys ∧ ∀ j, j < L.length → RdAt w B 1 (ys.getD j (.bool false)) (L.getD j []).length (intsV (L.getD j []))
theorem IntsRd.on {w w' : World} {B : Nat} {v : Value} {L : List (List Int)} (h : IntsRd w B v L) (hb : Below B w w') : IntsRd w' B v L := by
  obtain ⟨ys, hy, h1, h2⟩ := h
  exact ⟨ys, hy, h1.on hb, fun j hj => (h2 j hj).on hb⟩
theorem IntsRd.up {w w' : World} {v : Value} {L : List (List Int)} (h : IntsRd w w.heap.size v L) (hb : Below w.heap.size w w') : IntsRd w' w'.heap.size v L := by
  obtain ⟨ys, hy, h1, h2⟩ := h
  exact ⟨ys, hy, (h1.on hb).mono hb.size, fun j hj => ((h2 j hj).on hb).mono hb.size⟩
theorem IntsRd.len {w : World} {B : Nat} {v : Value} {L : List (List Int)} (h : IntsRd w B v L) : ∃ a cap, v = .slice a L.length cap := by
  obtain ⟨ys, hy, ⟨a, cap, e, -⟩, h2⟩ := h
  exact ⟨a, cap, e⟩
theorem IntsRd.row {w : World} {B : Nat} {a : Option Addr} {cap : Nat} {L : List (List Int)} (h : IntsRd w B (.slice a L.length cap) L) (j : Nat) (hj : j < L.length) :
    ∃ b off ar cr, a = some ⟨b, off, none⟩ ∧ b < B ∧ w.cell? ⟨b, off + j, none⟩ = some (.slice ar (L.getD j []).length cr) ∧ RdAt w B 1 (.slice ar (L.getD j []).length cr) (L.getD j []).length (intsV (L.getD j [])) := by
  obtain ⟨ys, hy, ⟨a', cap', e, f⟩, h2⟩ := h
  injection e with e1 e2 e3
  obtain ⟨b, off, eb, hlt, hc⟩ := f (by omega)
  have hr := h2 j hj
  obtain ⟨ar, cr, er, -⟩ := hr
  have hr := h2 j hj
  rw [er] at hr
  refine ⟨b, off, ar, cr, e1.trans eb, hlt, ?_, hr⟩
  rw [hc j (by omega), ← er]
  simp [List.getD, hy, hj]
theorem NatsRd.ints {w : World} {B : Nat} {v : Value} {L : List (List Nat)} (h : NatsRd w B v L) : IntsRd w B v (L.map fun l => l.map fun (x : Nat) => (x : Int)) := by
  obtain ⟨ys, hy, h1, h2⟩ := h
  have hg : ∀ j, j < L.length → (L.map fun l => l.map fun (x : Nat) => (x : Int)).getD j [] = (L.getD j []).map fun (x : Nat) => (x : Int) := fun j hj => by simp [List.getD, hj]
  refine ⟨ys, by simpa using hy, by simpa using h1, fun j hj => ?_⟩
  have hj' : j < L.length := by simpa using hj
  rw [hg j hj']
  have e : intsV ((L.getD j []).map fun (x : Nat) => (x : Int)) = nats (L.getD j []) := by simp [intsV, nats]
  rw [e, List.length_map]
  exact h2 j hj'

end Go.Proofs.Ytdlmhcickcgnfaa
