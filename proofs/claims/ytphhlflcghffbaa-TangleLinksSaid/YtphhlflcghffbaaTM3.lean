/- The walk of ref.pairing.other. -/
import Derived.Test.YtphhlflcghffbaaTM2
namespace Go.Proofs.Ytphhlflcghffbaa
open Go.RowKit Go.Maps

/-- The partner of x in the first pair that holds it. -/
def mt : List (Nat × Nat) → Nat → Nat
  | [], x => x
  | p :: t, x => if p.1 = x then p.2 else if p.2 = x then p.1 else mt t x
/-- Does a pair hold x? -/
def hasX (P : List (Nat × Nat)) (x : Nat) : Prop := ∃ p ∈ P, p.1 = x ∨ p.2 = x
theorem mt_first : ∀ (P : List (Nat × Nat)) (x : Nat), hasX P x → ∃ i, i < P.length ∧ (∀ j, j < i → (P.getD j (0, 0)).1 ≠ x ∧ (P.getD j (0, 0)).2 ≠ x) ∧ (((P.getD i (0, 0)).1 = x ∧ mt P x = (P.getD i (0, 0)).2) ∨ ((P.getD i (0, 0)).1 ≠ x ∧ (P.getD i (0, 0)).2 = x ∧ mt P x = (P.getD i (0, 0)).1))
  | [], x, h => by obtain ⟨p, hp, -⟩ := h; simp at hp
  | p :: t, x, h => by
    by_cases h1 : p.1 = x
    · exact ⟨0, by simp, fun j hj => by omega, Or.inl ⟨by simpa using h1, by simp [mt, h1]⟩⟩
    · by_cases h2 : p.2 = x
      · exact ⟨0, by simp, fun j hj => by omega, Or.inr ⟨by simpa using h1, by simpa using h2, by simp [mt, h1, h2]⟩⟩
      · have h3 : hasX t x := by
          obtain ⟨q, hq, hx⟩ := h
          rcases List.mem_cons.1 hq with rfl | hq
          · exact absurd hx (fun h => h.elim h1 h2)
          · exact ⟨q, hq, hx⟩
        obtain ⟨i, hi, hf, hc⟩ := mt_first t x h3
        refine ⟨i + 1, by simp; omega, fun j hj => ?_, ?_⟩
        · cases j with
          | zero => exact ⟨by simpa using h1, by simpa using h2⟩
          | succ j => simpa using hf j (by omega)
        · simpa [mt, h1, h2] using hc
theorem flat_cellsP {W : World} {B n g c : Nat} {l : List (Int × Int)} (h : W.ownsRow B 120 2 (.slice (some ⟨g, 0, none⟩) n c) n (flat l)) (hl : l.length = n) (i : Nat) (hi : i < n) : W.cell? ⟨g, i * 2, none⟩ = some (.int .i64 (l.getD i (0, 0)).1) ∧ W.cell? ⟨g, i * 2 + 1, none⟩ = some (.int .i64 (l.getD i (0, 0)).2) := by
  have hg := flat_get l i (by omega)
  exact ⟨(h.cellAt (i * 2) (by omega)).trans hg.1, (h.cellAt (i * 2 + 1) (by omega)).trans hg.2⟩
theorem map_at (P : List (Nat × Nat)) (f : Nat × Nat → Nat) (i : Nat) (hi : i < P.length) : (P.map fun p => spP (f p)).getD i (0, 0) = spP (f (P.getD i (0, 0))) := by
  simp [List.getD_eq_getElem?_getD, hi]
theorem spP_ne {a x : Nat} (h : a ≠ x) : (((spP a).1 == (spP x).1) = false) ∨ ((spP a).1 = (spP x).1 ∧ ((spP a).2 == (spP x).2) = false) := by
  unfold spP
  by_cases e : a / 4 = x / 4
  · right
    refine ⟨by rw [e], ?_⟩
    simp
    omega
  · left
    simp
    omega
/-- The other end of a first arc. -/
def xr (k : Nat) : Nat := if k = 0 then 1 else if k = 1 then 0 else if k = 2 then 3 else 2
theorem xor_run (k : Nat) (hk : k < 4) (W : World) : (binOp .xor 3 (.int .i64 (k : Nat)) (.int .i64 1)).run Try.prog W = .ok (.int .i64 (xr k : Nat)) W := by
  have h : k = 0 ∨ k = 1 ∨ k = 2 ∨ k = 3 := by omega
  rcases h with rfl | rfl | rfl | rfl <;> rfl
theorem xor_bits (k : Nat) (hk : k < 4) : bits .xor .i64 (k : Int) 1 = ((xr k : Nat) : Int) := by
  have h : k = 0 ∨ k = 1 ∨ k = 2 ∨ k = 3 := by omega
  rcases h with rfl | rfl | rfl | rfl <;> rfl
/-- What is tied to a spot of a crossing. -/
def othR (P : List (Nat × Nat)) (s : Nat) : Nat := if 4 ≤ mt P s then mt P s else mt P (xr (mt P s))
end Go.Proofs.Ytphhlflcghffbaa
