/- Tellings of pieces: plain mathematics; the walk of ref.otherEnd. -/
import Derived.Test.YtlimfajjmhfnaaaGreatDoorEndsP
import Derived.Test.YtlimfajjmhfnaaaGreatDoorW5P
namespace Go.Proofs.YtlimfajjmhfnaaaGreatDoor
open Go.RowKit

/-- The side at the other end of the arc on a side. -/
def nbS (C : List Cr) (k s : Nat) : Nat := enS C ((C.getD k Cr.none).arc s).toNat (!(C.getD k Cr.none).comes s)
theorem nb_may {C : List Cr} {loops : Int} (hm : mayD C loops = true) (k s : Nat) (hk : k < C.length) (hs : s < 4) :
    (1 ≤ ((C.getD k Cr.none).arc s).toNat ∧ ((C.getD k Cr.none).arc s).toNat ≤ 2 * C.length ∧ (C.getD k Cr.none).arc s = (((C.getD k Cr.none).arc s).toNat : Int)) ∧
    endTo C ((C.getD k Cr.none).arc s).toNat (!(C.getD k Cr.none).comes s) C.length = ((nbC C k s : Int), (nbS C k s : Int)) ∧ nbC C k s < C.length ∧ nbS C k s < 4 := by
  have hf := may_fit hm k s hk hs
  have g1 := hf.1
  have g2 := hf.2.1
  have ha : 1 ≤ ((C.getD k Cr.none).arc s).toNat ∧ ((C.getD k Cr.none).arc s).toNat ≤ 2 * C.length := by omega
  have h := en_may hm _ (!(C.getD k Cr.none).comes s) ha.1 ha.2
  exact ⟨⟨ha.1, ha.2, by omega⟩, h.1, h.2.1, h.2.2.1⟩
/-- One side of crossing c is told: the crossings numbered so far, and the code. -/
def teS (C : List Cr) (c : Nat) (p : List Nat × List Int) (s : Nat) : List Nat × List Int :=
  let o := if nbC C c s ∈ p.1 then p.1 else p.1 ++ [nbC C c s]
  (o, p.2 ++ [(o.idxOf (nbC C c s) : Int), (nbS C c s : Int)])
/-- Crossing number i is told, its first k sides. -/
def teK (C : List Cr) (i : Nat) (p : List Nat × List Int) : Nat → List Nat × List Int
  | 0 => (p.1, p.2 ++ [if (C.getD (p.1.getD i 0) Cr.none).plus = true then 1 else 0])
  | k + 1 => teS C (p.1.getD i 0) (teK C i p k) k
/-- The first i crossings are told. -/
def teI (C : List Cr) (first : Nat) : Nat → List Nat × List Int
  | 0 => ([first], [])
  | i + 1 => if i < (teI C first i).1.length then teK C i (teI C first i) 4 else teI C first i
/-- The telling from a crossing on. -/
def te (C : List Cr) (first : Nat) : List Nat × List Int := teI C first C.length
theorem teS_pre (C : List Cr) (c : Nat) (p : List Nat × List Int) (s : Nat) : p.1 <+: (teS C c p s).1 := by
  unfold teS
  simp only
  split
  · exact List.prefix_rfl
  · exact List.prefix_append _ _
theorem teK_pre (C : List Cr) (i : Nat) (p : List Nat × List Int) (k : Nat) : p.1 <+: (teK C i p k).1 := by
  induction k with
  | zero => exact List.prefix_rfl
  | succ k ih => exact ih.trans (teS_pre _ _ _ _)
/-- What is numbered: different crossings of the diagram. -/
structure TeOk (C : List Cr) (p : List Nat × List Int) : Prop where
  lt : ∀ x, x ∈ p.1 → x < C.length
  nd : p.1.Nodup
theorem TeOk.few {C : List Cr} {p : List Nat × List Int} (h : TeOk C p) : p.1.length ≤ C.length := by
  have := List.Nodup.length_le_of_subset h.nd (l₂ := List.range C.length) (fun x hx => List.mem_range.2 (h.lt x hx))
  simpa using this
theorem teS_ok {C : List Cr} {loops : Int} (hm : mayD C loops = true) {c : Nat} (hc : c < C.length) {p : List Nat × List Int} (h : TeOk C p) {s : Nat} (hs : s < 4) : TeOk C (teS C c p s) := by
  have hn := (nb_may hm c s hc hs).2.2.1
  unfold teS
  simp only
  split
  · exact ⟨h.lt, h.nd⟩
  · rename_i hno
    refine ⟨fun x hx => ?_, ?_⟩
    · rcases List.mem_append.1 hx with hx | hx
      · exact h.lt x hx
      · simp only [List.mem_singleton] at hx; omega
    · refine List.nodup_append.2 ⟨h.nd, by simp, fun a ha b hb e => ?_⟩
      simp only [List.mem_singleton] at hb
      rw [e, hb] at ha
      exact hno ha

end Go.Proofs.YtlimfajjmhfnaaaGreatDoor
