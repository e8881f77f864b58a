/- What ref.ReadDiagram reads, step by step. -/
import Derived.Test.YtlimfajjmhfnaaaDoorRD7
namespace Go.Proofs.YtlimfajjmhfnaaaDoor
open Go.RowKit

/-- What is read of a text from here on. -/
def rs (l : List UInt8) (acc : List Cr) (m : Nat) : Option (List Cr × Nat) := readS l.length l acc m
theorem rs_fuel {n : Nat} {l : List UInt8} {acc : List Cr} {m : Nat} (h : l.length ≤ n) : readS n l acc m = rs l acc m := by
  unfold rs
  rw [read_same n l acc m h, read_same l.length l acc m (Nat.le_refl _)]
theorem rs_all (l : List UInt8) : rs l [] 0 = readP (fieldsC [] l) [] 0 := read_same l.length l [] 0 (Nat.le_refl _)
theorem rs_end {L : List UInt8} {k : Nat} {acc : List Cr} {m : Nat} (h : L.length ≤ k) : rs (L.drop k) acc m = some (acc, m) := by
  rw [List.drop_of_length_le h]
  rfl
theorem rs_step {L : List UInt8} {k : Nat} {b : UInt8} (acc : List Cr) (m : Nat) (h : L[k]? = some b) : rs (L.drop k) acc m = if blB b then rs (L.drop (k + 1)) acc m else if b = 79 ∧ blH (L.drop (k + 1)) = true then rs (L.drop (k + 1)) acc (m + 1) else match crossS (L.drop k) with
    | none => none
    | some (c, r') => if blH r' then readS (L.drop (k + 1)).length r' (acc ++ [c]) m else none := by
  have hk : k < L.length := (List.getElem?_eq_some_iff.1 h).1
  have e : L.drop k = b :: L.drop (k + 1) := by
    rw [List.drop_eq_getElem_cons hk]
    have : L[k] = b := by have := List.getElem?_eq_getElem hk; rw [h] at this; exact (Option.some.inj this).symm
    rw [this]
  rw [e]
  rfl
theorem crossS_at {L : List UInt8} {k : Nat} {c : Cr} {r : List UInt8} (h : crossS (L.drop k) = some (c, r)) : ∃ e, k < e ∧ e ≤ L.length ∧ r = L.drop e ∧ L.length - r.length = e := by
  obtain ⟨plus, x, y, z, u, -, hl⟩ := crossS_iff.1 h
  have h1 : r <:+ L.drop k := by
    rw [hl]
    exact ⟨88 :: (if plus then 43 else 45) :: 91 :: (x ++ 44 :: (y ++ 44 :: (z ++ 44 :: (u ++ [93])))), by simp⟩
  have h2 : r <:+ L := h1.trans (List.drop_suffix k L)
  have h3 : r.length + 1 ≤ (L.drop k).length := by rw [hl]; simp; omega
  rw [List.length_drop] at h3
  exact ⟨L.length - r.length, by omega, by omega, List.suffix_iff_eq_drop.1 h2, rfl⟩
theorem rs_cross {L : List UInt8} {k e : Nat} {b : UInt8} {acc : List Cr} {m : Nat} {c : Cr} (h : L[k]? = some b) (hb : blB b = false) (ho : ¬ (b = 79 ∧ blH (L.drop (k + 1)) = true)) (hc : crossS (L.drop k) = some (c, L.drop e)) (hke : k < e) (hbl : blH (L.drop e) = true) : rs (L.drop k) acc m = rs (L.drop e) (acc ++ [c]) m := by
  rw [rs_step acc m h, hb, if_neg (by simp), if_neg ho, hc]
  simp only
  rw [if_pos hbl]
  exact rs_fuel (by rw [List.length_drop, List.length_drop]; omega)
theorem rs_none {L : List UInt8} {k : Nat} {b : UInt8} {acc : List Cr} {m : Nat} (h : L[k]? = some b) (hb : blB b = false) (ho : ¬ (b = 79 ∧ blH (L.drop (k + 1)) = true)) (hc : crossS (L.drop k) = none) : rs (L.drop k) acc m = none := by
  rw [rs_step acc m h, hb, if_neg (by simp), if_neg ho, hc]
theorem rs_bad {L : List UInt8} {k : Nat} {b : UInt8} {acc : List Cr} {m : Nat} {c : Cr} {r : List UInt8} (h : L[k]? = some b) (hb : blB b = false) (ho : ¬ (b = 79 ∧ blH (L.drop (k + 1)) = true)) (hc : crossS (L.drop k) = some (c, r)) (hbl : blH r = false) : rs (L.drop k) acc m = none := by
  rw [rs_step acc m h, hb, if_neg (by simp), if_neg ho, hc]
  simp only
  rw [hbl]
  rfl
theorem rs_blank {L : List UInt8} {k : Nat} {b : UInt8} {acc : List Cr} {m : Nat} (h : L[k]? = some b) (hb : blB b = true) : rs (L.drop k) acc m = rs (L.drop (k + 1)) acc m := by
  rw [rs_step acc m h, hb, if_pos rfl]
theorem rs_loop {L : List UInt8} {k : Nat} {acc : List Cr} {m : Nat} (h : L[k]? = some 79) (hb : blH (L.drop (k + 1)) = true) : rs (L.drop k) acc m = rs (L.drop (k + 1)) acc (m + 1) := by
  rw [rs_step acc m h, if_neg (by decide), if_pos ⟨rfl, hb⟩]
end Go.Proofs.YtlimfajjmhfnaaaDoor
