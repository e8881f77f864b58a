/- Several texts of the proof, one behind the other. -/
import Derived.Test.YtnlcknlodjjdbaaDoorF1P
/- Tables of numbers that are read. -/
namespace Go.Proofs.YtnlcknlodjjdbaaDoor
open Go.RowKit

/-- Lists of numbers, to be read. -/
def IntsRd (w : World) (B : Nat) (v : Value) (L : List (List Int)) : Prop := ∃ ys : List Value, ys.length = L.length ∧ RdAt w B 1 v L.length ys ∧ ∀ j, j < L.length → RdAt w B 1 (ys.getD j (.bool false)) (L.getD j []).length (intsV (L.getD j []))
theorem IntsRd.on {w w' : World} {B : Nat} {v : Value} {L : List (List Int)} (h : IntsRd w B v L) (hb : Below B w w') : IntsRd w' B v L := by
  obtain ⟨ys, hy, h1, h2⟩ := h
  exact ⟨ys, hy, h1.on hb, fun j hj => (h2 j hj).on hb⟩
theorem IntsRd.up {w w' : World} {v : Value} {L : List (List Int)} (h : IntsRd w w.heap.size v L) (hb : Below w.heap.size w w') : IntsRd w' w'.heap.size v L := by
  obtain ⟨ys, hy, h1, h2⟩ := h
  exact ⟨ys, hy, (h1.on hb).mono hb.size, fun j hj => ((h2 j hj).on hb).mono hb.size⟩
theorem IntsRd.len {w : World} {B : Nat} {v : Value} {L : List (List Int)} (h : IntsRd w B v L) : ∃ a cap, v = .slice a L.length cap := by
  obtain ⟨ys, hy, ⟨a, cap, e, -⟩, h2⟩ := h
  exact ⟨a, cap, e⟩
theorem IntsRd.row {w : World} {B : Nat} {a : Option Addr} {cap : Nat} {L : List (List Int)} (h : IntsRd w B (.slice a L.length cap) L) (j : Nat) (hj : j < L.length) :
    ∃ b off ar cr, a = some ⟨b, off, none⟩ ∧ b < B ∧ w.cell? ⟨b, off + j, none⟩ = some (.slice ar (L.getD j []).length cr) ∧ RdAt w B 1 (.slice ar (L.getD j []).length cr) (L.getD j []).length (intsV (L.getD j [])) := by
  obtain ⟨ys, hy, ⟨a', cap', e, f⟩, h2⟩ := h
  injection e with e1 e2 e3
  obtain ⟨b, off, eb, hlt, hc⟩ := f (by omega)
  have hr := h2 j hj
  obtain ⟨ar, cr, er, -⟩ := hr
  have hr := h2 j hj
  rw [er] at hr
  refine ⟨b, off, ar, cr, e1.trans eb, hlt, ?_, hr⟩
  rw [hc j (by omega), ← er]
  simp [List.getD, hy, hj]
end Go.Proofs.YtnlcknlodjjdbaaDoor
/- Lists of numbers that are read; the walk of sameTables. -/
namespace Go.Proofs.YtnlcknlodjjdbaaDoor
open Go.RowKit

end Go.Proofs.YtnlcknlodjjdbaaDoor
