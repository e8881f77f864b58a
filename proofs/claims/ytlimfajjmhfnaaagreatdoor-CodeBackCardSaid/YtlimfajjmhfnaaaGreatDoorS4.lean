/- The walk of canon.both. -/
import Derived.Test.YtlimfajjmhfnaaaGreatDoorHsP
import Derived.Deep.Cut
namespace Go.Proofs.YtlimfajjmhfnaaaGreatDoor
open Go.RowKit

/-- A drawing as a value: of a diagram that may be, and of none. -/
structure DrawIs (w : World) (v : Value) (loops : Int) (C : List Cr) (c0 c1 c2 c3 : Value) : Prop where
  no : mayD C loops = false → c0 = .slice none 0 0 ∧ c1 = .int .i64 0 ∧ c2 = .slice none 0 0 ∧ c3 = .slice none 0 0
  yes : mayD C loops = true → ∃ a cap gF cF gT cT, v = .slice a C.length cap ∧ c0 = v ∧ c1 = .int .i64 loops ∧ c2 = .slice (some ⟨gF, 0, none⟩) (2 * C.length + 1) cF ∧ c3 = .slice (some ⟨gT, 0, none⟩) (2 * C.length + 1) cT

/-- Four cells written out. -/
def Shaped (c0 c1 c2 c3 : Value) : Prop := ∃ (a : Option Addr) (n cap : Nat) (l : Int) (gF : Option Addr) (nF cF : Nat) (gT : Option Addr) (nT cT : Nat), c0 = .slice a n cap ∧ c1 = .int .i64 l ∧ c2 = .slice gF nF cF ∧ c3 = .slice gT nT cT
theorem drew_block {w : World} {k : Nat} {o : Option Obj} (h : w.heap[k]? = o) : w.drew.heap[k]? = o := h
theorem slice_Crs' {w : World} {B : Nat} {v : Value} {C : List Cr} (h : Crs w B v C) : ∃ a cap, v = .slice a C.length cap := by
  obtain ⟨a, cap, rfl, -, -⟩ := h
  exact ⟨a, cap, rfl⟩
theorem of_cells {v : Value} {C : List Cr} {loops : Int} {w : World} (h : Crs w w.heap.size v C) :
    Calls Tryz.prog 14 #[.agg #[v, .int .i64 loops]] w fun e w' => ∃ c0 c1 c2 c3, e = .returned (.tuple #[.agg #[c0, c1, c2, c3], .bool (mayD C loops)]) ∧ Below w.heap.size w w' ∧ DrawIs w v loops C c0 c1 c2 c3 := by
  refine (of_any v C loops w h).mono fun e w' hq => ?_
  obtain ⟨d, rfl, hb, hd⟩ := hq
  cases hm : mayD C loops with
  | false =>
    refine ⟨.slice none 0 0, .int .i64 0, .slice none 0 0, .slice none 0 0, by rw [hd.no hm]; rfl, hb, ⟨fun _ => ⟨rfl, rfl, rfl, rfl⟩, fun h => (by rw [hm] at h; cases h)⟩⟩
  | true =>
    obtain ⟨gF, cF, gT, cT, rfl, -, -⟩ := hd.yes hm
    obtain ⟨a, cap, rfl⟩ := slice_Crs' h
    exact ⟨_, _, _, _, rfl, hb, ⟨fun h => (by rw [hm] at h; cases h), fun _ => ⟨a, cap, gF, cF, gT, cT, rfl, rfl, rfl, rfl, rfl⟩⟩⟩

end Go.Proofs.YtlimfajjmhfnaaaGreatDoor
