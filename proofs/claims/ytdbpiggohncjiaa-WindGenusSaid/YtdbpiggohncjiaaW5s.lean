/- The walk of the law's sameInts. -/
import Derived.Test.YtdbpiggohncjiaaW5
namespace Go.Proofs.Ytdbpiggohncjiaa
open Go.RowKit

set_option maxHeartbeats 2000000 in
set_option maxRecDepth 100000 in
theorem sameInts_eq (v1 v2 : Value) (l : List Nat) (w : World) (hl : l.length ≤ 100) (h1 : Slots w w.heap.size v1 (nats l)) (h2 : Slots w w.heap.size v2 (nats l)) :
    Calls Try.prog 65 #[v1, v2] w fun e w' => e = .returned (.bool true) ∧ Below w.heap.size w w' := by
  obtain ⟨a1, c1, rfl, g1⟩ := h1
  obtain ⟨a2, c2, rfl, g2⟩ := h2
  rw [nats_len] at g1 g2 ⊢
  have HG1 : Hid (0 < l.length → ∃ b off, a1 = some ⟨b, off, none⟩ ∧ b < w.heap.size ∧ ∀ i, i < l.length → w.cell? ⟨b, off + i, none⟩ = some ((nats l).getD i (.bool false))) := g1
  have HG2 : Hid (0 < l.length → ∃ b off, a2 = some ⟨b, off, none⟩ ∧ b < w.heap.size ∧ ∀ i, i < l.length → w.cell? ⟨b, off + i, none⟩ = some ((nats l).getD i (.bool false))) := g2
  have HV : Hid (∀ i, i < l.length → (nats l).getD i (.bool false) = .int .i64 (l.getD i 0 : Nat)) := fun i hi => by rw [List.getD_eq_getElem?_getD, nats_get l i hi]; rfl
  clear g1 g2
  have hne : ((l.length : Int) != (l.length : Int)) = false := by simp
  go_enter Try.func65, Try.ntmps65
  go_wp2
  go_loopw [5] (fun v5 wr => ∃ k : Nat, k ≤ l.length ∧ v5 = .int .i64 k ∧ Below w.heap.size w wr) (fun v5 _ => l.length - (intOf v5).toNat)
  case atStart => exact ⟨0, Nat.zero_le _, rfl, Below.refl _ _⟩
  case round =>
    obtain ⟨k, hk, rfl, hb⟩ := hrel
    by_cases hlt : k < l.length
    · obtain ⟨b1, o1, rfl, hb1, q1⟩ := HG1.out (by omega)
      obtain ⟨b2, o2, rfl, hb2, q2⟩ := HG2.out (by omega)
      have p1 := bcell hb hb1 (q1 k hlt)
      have p2 := bcell hb hb2 (q2 k hlt)
      rw [HV.out k hlt] at p1 p2
      generalize l.getD k 0 = z at p1 p2
      have hd : (((z : Nat) : Int) != (z : Int)) = false := by simp
      clear q1 q2
      go_wp2
      go_quiet (fail)
      go_wp2
      go_roundw
      case rel => exact ⟨k + 1, by omega, by go_num, below_drewN hb _⟩
      case measure => simp [intOf]; omega
    · obtain rfl : k = l.length := by omega
      go_wp2
      go_ret
      exact ⟨rfl, hb⟩
end Go.Proofs.Ytdbpiggohncjiaa
