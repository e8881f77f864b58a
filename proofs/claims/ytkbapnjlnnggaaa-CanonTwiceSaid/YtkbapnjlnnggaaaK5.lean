/- Parts that run the other way round; the walk of ref.within. -/
import Derived.Test.YtkbapnjlnnggaaaK1P
import Derived.Test.YtkbapnjlnnggaaaW5P
namespace Go.Proofs.Ytkbapnjlnnggaaa
open Go.RowKit

/-- Does the number stand in the list? -/
def wi (l : List Nat) (z : Int) : Bool := l.any fun y => decide ((y : Int) = z)
theorem wi_yes {l : List Nat} {z : Int} {i : Nat} (hi : i < l.length) (h : ((l.getD i 0 : Nat) : Int) = z) : wi l z = true := by
  simp only [wi, List.any_eq_true, decide_eq_true_eq]
  refine ⟨l.getD i 0, ?_, h⟩
  rw [List.getD_eq_getElem?_getD, List.getElem?_eq_getElem hi]
  exact List.getElem_mem hi
theorem wi_no {l : List Nat} {z : Int} (h : ∀ i, i < l.length → ((l.getD i 0 : Nat) : Int) ≠ z) : wi l z = false := by
  cases hw : wi l z with
  | false => rfl
  | true =>
    simp only [wi, List.any_eq_true, decide_eq_true_eq] at hw
    obtain ⟨y, hy, rfl⟩ := hw
    obtain ⟨i, hi, rfl⟩ := List.getElem_of_mem hy
    have := h i hi
    rw [List.getD_eq_getElem?_getD, List.getElem?_eq_getElem hi] at this
    exact absurd rfl this
theorem wi_iff (l : List Nat) (a : Nat) : wi l (a : Int) = true ↔ a ∈ l := by
  simp only [wi, List.any_eq_true, decide_eq_true_eq]
  constructor
  · rintro ⟨y, hy, h⟩
    have : y = a := by omega
    rw [← this]
    exact hy
  · intro h
    exact ⟨a, h, rfl⟩
/-- A crossing whose strand below (p) and strand above (q) run the other way round. -/
def revX (p q : Bool) (x : Cr) : Cr := ⟨if p = true then x.c else x.a, if p = true then x.d else x.b, if p = true then x.a else x.c, if p = true then x.b else x.d, if p = q then x.plus else !x.plus⟩
/-- The diagram with its part wk reversed. -/
def revC (wk : List Nat) (C : List Cr) : List Cr := C.map fun x => revX (wi wk x.a) (wi wk x.b) x
theorem OutAt.keptNew {w1 w w' : World} {B g q : Nat} {v : Value} {loops : Int} {C : List Cr} (h1 : OutAt w1 B g v loops C) (h : OutAt w B g v loops C) (hq : w1.heap.size ≤ q) (hg : w.grownBy w' (some q)) : OutAt w' B g v loops C := by
  have hlt := (Array.getElem?_eq_some_iff.1 h1.box).1
  refine ⟨(hg.block _ (Array.getElem?_eq_some_iff.1 h.box).1 (fun e => by have := Option.some.inj e; omega)).trans h.box, h.row.kept hg ?_⟩
  cases hv : v.ownBlock with
  | none => exact Or.inl rfl
  | some k => exact Or.inr (fun e => by have h2 := (h1.row.lt k hv).2; have h3 := Option.some.inj e; omega)

set_option maxHeartbeats 2000000 in
set_option maxRecDepth 100000 in
theorem within_any (v : Value) (l : List Nat) (z : Int) (w : World) (hl : l.length ≤ 100) (h1 : Slots w w.heap.size v (nats l)) :
    Calls Try.prog 88 #[v, .int .i64 z] w fun e w' => e = .returned (.bool (wi l z)) ∧ Below w.heap.size w w' := by
  obtain ⟨a1, c1, rfl, g1⟩ := h1
  rw [nats_len] at g1 ⊢
  have HG1 : Hid (0 < l.length → ∃ b off, a1 = some ⟨b, off, none⟩ ∧ b < w.heap.size ∧ ∀ i, i < l.length → w.cell? ⟨b, off + i, none⟩ = some ((nats l).getD i (.bool false))) := g1
  have HV : Hid (∀ i, i < l.length → (nats l).getD i (.bool false) = .int .i64 (l.getD i 0 : Nat)) := fun i hi => by rw [List.getD_eq_getElem?_getD, nats_get l i hi]; rfl
  clear g1
  go_enter Try.func88, Try.ntmps88
  go_wp2
  go_loopw [5] (fun v5 wr => ∃ k : Nat, k ≤ l.length ∧ v5 = .int .i64 k ∧ Hid (∀ j, j < k → ((l.getD j 0 : Nat) : Int) ≠ z) ∧ Below w.heap.size w wr) (fun v5 _ => l.length - (intOf v5).toNat)
  case atStart => exact ⟨0, Nat.zero_le _, rfl, fun j hj => absurd hj (Nat.not_lt_zero _), Below.refl _ _⟩
  case round =>
    obtain ⟨k, hk, rfl, hno, hb⟩ := hrel
    by_cases hlt : k < l.length
    · obtain ⟨b1, o1, rfl, hb1, q1⟩ := HG1.out (by omega)
      have p1 := bcell hb hb1 (q1 k hlt)
      rw [HV.out k hlt] at p1
      obtain ⟨y, hy⟩ : ∃ y, l.getD k 0 = y := ⟨_, rfl⟩
      rw [hy] at p1
      have HY : Hid (l.getD k 0 = y) := hy
      have hsz := hb.size
      have hbw : b1 < wr.heap.size := by omega
      clear q1 hy
      by_cases hz : (y : Int) = z
      · have hd : ((y : Int) == z) = true := by simpa using hz
        have HW : Hid (wi l z = true) := wi_yes hlt (by rw [HY.out]; exact hz)
        go_wp2
        go_ret
        exact ⟨ret_bool HW.out, hb⟩
      · have hd : ((y : Int) == z) = false := by rw [beq_eq_false_iff_ne]; exact hz
        go_wp2
        go_roundw
        case rel =>
          refine ⟨k + 1, by omega, by go_num, fun j hj => ?_, hb⟩
          by_cases e : j = k
          · rw [e, HY.out]; exact hz
          · exact hno.out j (by omega)
        case measure => simp [intOf]; omega
    · obtain rfl : k = l.length := by omega
      have HW : Hid (wi l z = false) := wi_no (fun j hj => hno.out j hj)
      go_wp2
      go_ret
      exact ⟨ret_bool HW.out, hb⟩
end Go.Proofs.Ytkbapnjlnnggaaa
