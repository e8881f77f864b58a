/- Long lists of numbers that are read: the walks of sameInts and sameTables. -/
import Derived.Test.YtphhlflcghffbaaBR11
namespace Go.Proofs.Ytphhlflcghffbaa
open Go.RowKit

set_option maxHeartbeats 2000000 in
set_option maxRecDepth 100000 in
theorem sameInts_eqB (v1 v2 : Value) (l : List Int) (w : World) (hl : l.length ≤ 20000000000) (h1 : Slots w w.heap.size v1 (intsV l)) (h2 : Slots w w.heap.size v2 (intsV l)) :
    Calls Try.prog 32 #[v1, v2] w fun e w' => e = .returned (.bool true) ∧ Below w.heap.size w w' := by
  obtain ⟨a1, c1, rfl, g1⟩ := h1
  obtain ⟨a2, c2, rfl, g2⟩ := h2
  rw [intsV_len] at g1 g2 ⊢
  have HG1 : Hid (0 < l.length → ∃ b off, a1 = some ⟨b, off, none⟩ ∧ b < w.heap.size ∧ ∀ i, i < l.length → w.cell? ⟨b, off + i, none⟩ = some ((intsV l).getD i (.bool false))) := g1
  have HG2 : Hid (0 < l.length → ∃ b off, a2 = some ⟨b, off, none⟩ ∧ b < w.heap.size ∧ ∀ i, i < l.length → w.cell? ⟨b, off + i, none⟩ = some ((intsV l).getD i (.bool false))) := g2
  have HV : Hid (∀ i, i < l.length → (intsV l).getD i (.bool false) = .int .i64 (l.getD i 0)) := fun i hi => by rw [List.getD_eq_getElem?_getD, intsV_get l i hi]; rfl
  clear g1 g2
  have hne : ((l.length : Int) != (l.length : Int)) = false := by simp
  go_enter Try.func32, Try.ntmps32
  go_wp2
  go_loopw [5] (fun v5 wr => ∃ k : Nat, k ≤ l.length ∧ v5 = .int .i64 k ∧ Below w.heap.size w wr) (fun v5 _ => l.length - (intOf v5).toNat)
  case atStart => exact ⟨0, Nat.zero_le _, rfl, Below.refl _ _⟩
  case round =>
    obtain ⟨k, hk, rfl, hb⟩ := hrel
    by_cases hlt : k < l.length
    · obtain ⟨b1, o1, rfl, hb1, q1⟩ := HG1.out (by omega)
      obtain ⟨b2, o2, rfl, hb2, q2⟩ := HG2.out (by omega)
      have p1 := bcell hb hb1 (q1 k hlt)
      have p2 := bcell hb hb2 (q2 k hlt)
      rw [HV.out k hlt] at p1 p2
      generalize l.getD k 0 = z at p1 p2
      have hd : (z != z) = false := by simp
      clear q1 q2
      go_wp2
      go_quiet (fail)
      go_wp2
      go_roundw
      case rel => exact ⟨k + 1, by omega, by go_num, below_drewN hb _⟩
      case measure => simp [intOf]; omega
    · obtain rfl : k = l.length := by omega
      go_wp2
      go_ret
      exact ⟨rfl, hb⟩

set_option maxHeartbeats 4000000 in
set_option maxRecDepth 100000 in
theorem sameTables_eqB (v1 v2 : Value) (L : List (List Int)) (w : World) (hl : L.length ≤ 100) (hr : ∀ j, j < L.length → (L.getD j []).length ≤ 20000000000) (h1 : IntsRd w w.heap.size v1 L) (h2 : IntsRd w w.heap.size v2 L) :
    Calls Try.prog 35 #[v1, v2] w fun e w' => e = .returned (.bool true) ∧ Below w.heap.size w w' := by
  obtain ⟨a1, c1, rfl⟩ := h1.len
  obtain ⟨a2, c2, rfl⟩ := h2.len
  have H1 : Hid (IntsRd w w.heap.size (.slice a1 L.length c1) L) := h1
  have H2 : Hid (IntsRd w w.heap.size (.slice a2 L.length c2) L) := h2
  have HR : Hid (∀ j, j < L.length → (L.getD j []).length ≤ 20000000000) := hr
  clear h1 h2 hr
  have hee : ((L.length : Int) == (L.length : Int)) = true := beq_self_eq_true _
  go_enter Try.func35, Try.ntmps35
  go_wp2
  go_loopw [5] (fun v5 wr => ∃ i : Nat, i ≤ L.length ∧ v5 = .int .i64 (i : Nat) ∧ Hid (Below w.heap.size w wr)) (fun v5 _ => L.length - (intOf v5).toNat)
  case atStart => exact ⟨0, Nat.zero_le _, rfl, Below.refl _ _⟩
  case round =>
    rename World => W1
    obtain ⟨i, hin, rfl, hb⟩ := hrel
    have hsW := hb.out.size
    by_cases hil : i < L.length
    · obtain ⟨b1, o1, r1, s1, e1, l1, q1, x1⟩ := H1.out.row i hil
      obtain ⟨b2, o2, r2, s2, e2, l2, q2, x2⟩ := H2.out.row i hil
      obtain rfl := e1
      obtain rfl := e2
      have hln := HR.out i hil
      have X1 : Hid (∀ W, Below w.heap.size w W → Slots W W.heap.size (.slice r1 (L.getD i []).length s1) (intsV (L.getD i []))) := fun W hb => ((x1.on hb).mono hb.size).slots (by rw [intsV_len])
      have X2 : Hid (∀ W, Below w.heap.size w W → Slots W W.heap.size (.slice r2 (L.getD i []).length s2) (intsV (L.getD i []))) := fun W hb => ((x2.on hb).mono hb.size).slots (by rw [intsV_len])
      obtain ⟨V, hV⟩ : ∃ V, L.getD i [] = V := ⟨_, rfl⟩
      rw [hV] at q1 q2 hln X1 X2
      have HF : Hid (∀ w', Below W1.heap.size W1 w' → w'.cell? ⟨b1, o1 + i, none⟩ = some (.slice r1 V.length s1) ∧ w'.cell? ⟨b2, o2 + i, none⟩ = some (.slice r2 V.length s2)) := fun w' hb' => by
        have hb2 := hb.out.trans (hb'.mono hsW)
        exact ⟨bcell hb2 l1 q1, bcell hb2 l2 q2⟩
      have HBW : Hid (∀ w', Below W1.heap.size W1 w' → Below w.heap.size w w') := fun w' hb' => hb.out.trans (hb'.mono hsW)
      have HD1 : Hid (Below W1.heap.size W1 W1.drew) := (Below.refl _ _).drew
      have hb1 : b1 < W1.heap.size := by omega
      have hb2 : b2 < W1.heap.size := by omega
      have hii : (i : Int) < (L.length : Int) := by omega
      obtain ⟨n0, n1⟩ := HF.out W1 (Below.refl _ _)
      clear x1 x2 q1 q2 hV
      go_wp2
      go_region_held3 (fun w' => w'.cell? ⟨b1, o1 + i, none⟩ = some (.slice r1 V.length s1) ∧ w'.cell? ⟨b2, o2 + i, none⟩ = some (.slice r2 V.length s2)) (first | exact HF.out _ HY.out | exact HF.out _ HD1.out | exact HF.out _ (Below.refl _ _)) (first | (go_at_call 32; refine (sameInts_eqB _ _ V _ (by omega) (X1.out _ (HBW.out _ HD1.out)) (X2.out _ (HBW.out _ HD1.out))).mono ?_; rintro e9 w5 ⟨rfl, hb5⟩; have HY : Hid (Below W1.heap.size W1 w5) := HD1.out.trans (hb5.mono HD1.out.size); clear hb5))
      go_wp2
      go_roundw
      case rel => exact ⟨i + 1, by omega, by go_num, HBW.out _ HY.out⟩
      case measure => simp only [intOf]; omega
    · obtain rfl : i = L.length := by omega
      go_wp2
      go_ret
      exact ⟨rfl, hb.out⟩
end Go.Proofs.Ytphhlflcghffbaa
