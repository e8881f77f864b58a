/- ref.crossIn, whole. Made by genrd8.py. -/
import Derived.Test.YtlimfajjmhfnaaaDoorRD8
namespace Go.Proofs.YtlimfajjmhfnaaaDoor
open Go.RowKit

theorem head_at {L : List UInt8} {k : Nat} {plus : Bool} {r : List UInt8} (h : headP (L.drop k) = some (plus, r)) : k + 3 ≤ L.length ∧ L[k]? = some 88 ∧ (L[k + 1]? = some 43 ∧ plus = true ∨ L[k + 1]? = some 45 ∧ plus = false) ∧ L[k + 2]? = some 91 ∧ r = L.drop (k + 3) := by
  have e0 : L[k]? = (L.drop k)[0]? := by rw [List.getElem?_drop]; rfl
  have e1 : L[k + 1]? = (L.drop k)[1]? := by rw [List.getElem?_drop]
  have e2 : L[k + 2]? = (L.drop k)[2]? := by rw [List.getElem?_drop]
  have e3 : L.drop (k + 3) = (L.drop k).drop 3 := by rw [List.drop_drop]
  have e4 : (L.drop k).length = L.length - k := List.length_drop
  rw [e0, e1, e2, e3]
  match hl : L.drop k, h with
  | x :: y :: z :: r', h =>
    rw [hl] at e4
    simp only [List.length_cons] at e4
    unfold headP at h
    simp only at h
    by_cases hc : x = 88 ∧ (y = 43 ∨ y = 45) ∧ z = 91
    · rw [if_pos hc] at h
      obtain ⟨rfl, hy, rfl⟩ := hc
      have h2 := Option.some.inj h
      have h3 : decide (y = 43) = plus := congrArg Prod.fst h2
      have h4 : r' = r := congrArg Prod.snd h2
      refine ⟨by omega, rfl, ?_, rfl, ?_⟩
      · rcases hy with rfl | rfl
        · exact Or.inl ⟨rfl, h3.symm⟩
        · exact Or.inr ⟨rfl, h3.symm⟩
      · rw [← h4]; rfl
    · rw [if_neg hc] at h
      cases h
/-- ref.crossIn, whole. -/
theorem crossIn_any (L : List UInt8) (k : Nat) (w : World) (hL : L.length ≤ 10000) (hk : k ≤ 10000) :
    Calls Tryd.prog 25 #[.string ⟨L.toArray⟩, .int .i64 (k : Nat)] w fun e w' => e = .returned (ciV L k) ∧ Below w.heap.size w w' := by
  cases h : headP (L.drop k) with
  | none => exact crossIn_no L k w hL hk h
  | some q =>
    obtain ⟨plus, r⟩ := q
    obtain ⟨h1, h2, h3, h4, h5⟩ := head_at h
    have h6 := crossS_rest (L.drop k)
    rw [h] at h6
    simp only at h6
    rw [h5] at h6
    rcases h3 with ⟨h3, rfl⟩ | ⟨h3, rfl⟩
    · exact crossIn_true L k w hL h1 h2 h3 h4 h6.symm
    · exact crossIn_false L k w hL h1 h2 h3 h4 h6.symm
end Go.Proofs.YtlimfajjmhfnaaaDoor
