/- The walks of poly.everyPlace with poly.mayBe and with poly.small. -/
import Derived.Test.YthbhllomikfbhaaDoorPD6
namespace Go.Proofs.YthbhllomikfbhaaDoor.Poly
open Go.RowKit Go.Maps

theorem small_none (a : Option Addr) (cap : Nat) (w : World) :
    Calls Tryd.prog 36 #[.slice a 0 cap] w fun e w' => e = .returned (.bool true) ∧ Below w.heap.size w w' := by
  go_enter Tryd.func36, Tryd.ntmps36
  go_wp2
  go_loopw [3, 8] (fun s i wr => s = .int .i64 0 ∧ i = .int .i64 0 ∧ Below w.heap.size w wr) (fun _ _ _ => 0)
  case atStart => exact ⟨rfl, rfl, Below.refl _ _⟩
  case round =>
    obtain ⟨rfl, rfl, hb⟩ := hrel
    go_wp2
    go_ret
    exact ⟨rfl, hb⟩

theorem small_poly (v : Value) (l : List (Int × Int)) (w : World) (hm : mayB l = true) (hP : Poly w w.heap.size v l) :
    Calls Tryd.prog 36 #[v] w fun e w' => e = .returned (.bool (decide (sizeL l ≤ 100))) ∧ Below w.heap.size w w' := by
  rcases hP with ⟨rfl, rfl⟩ | ⟨a, cap, rfl, rfl⟩ | ⟨b, off, cap, rfl, hlt, hT⟩
  · exact small_none none 0 w
  · exact small_none (some a) cap w
  · exact small_some b off cap l w hm hlt hT

/-- Each place of the table is good. -/
def everyB (G : List (Int × Int) → Bool) (T : List (List (List (Int × Int)))) : Bool := (List.range T.length).all fun i => (List.range (T.getD i []).length).all fun j => G ((T.getD i []).getD j [])
theorem every_iff (G : List (Int × Int) → Bool) (T : List (List (List (Int × Int)))) : everyB G T = true ↔ ∀ i, i < T.length → ∀ j, j < (T.getD i []).length → G ((T.getD i []).getD j []) = true := by
  unfold everyB
  simp only [List.all_eq_true, List.mem_range]
theorem every_no {G : List (Int × Int) → Bool} {T : List (List (List (Int × Int)))} {i j : Nat} (hi : i < T.length) (hj : j < (T.getD i []).length) (h : G ((T.getD i []).getD j []) = false) : everyB G T = false := by
  cases hm : everyB G T with
  | false => rfl
  | true => have := (every_iff G T).1 hm i hi j hj; rw [h] at this; cases this

/-- The coefficients' sizes are few enough together. -/
def fewB (l : List (Int × Int)) : Bool := decide (sizeL l ≤ 100)
theorem small_poly_few (v : Value) (l : List (Int × Int)) (w : World) (hm : mayB l = true) (hP : Poly w w.heap.size v l) :
    Calls Tryd.prog 36 #[v] w fun e w' => e = .returned (.bool (fewB l)) ∧ Below w.heap.size w w' := small_poly v l w hm hP

set_option maxHeartbeats 1000000 in
set_option maxRecDepth 100000 in
theorem every_may (v : Value) (T : List (List (List (Int × Int)))) (w : World) (hl : T.length ≤ 6) (hr : ∀ i, i < T.length → (T.getD i []).length ≤ 6) (hp : ∀ i, i < T.length → ∀ j, j < (T.getD i []).length → ((T.getD i []).getD j []).length ≤ maxLen) (h : Table w w.heap.size v T) :
    Calls Tryd.prog 35 #[v, .func (.func 23) #[] #[]] w fun e w' => e = .returned (.bool (everyB mayB T)) ∧ Below w.heap.size w w' := by
  obtain ⟨rs, hrl, ⟨a, cap, rfl, g⟩, hR⟩ := h
  have HR : Hid (∀ i, i < T.length → Row w w.heap.size (rs.getD i (.bool false)) (T.getD i [])) := hR
  have HL : Hid (∀ i, i < T.length → (T.getD i []).length ≤ 6) := hr
  have HP : Hid (∀ i, i < T.length → ∀ j, j < (T.getD i []).length → ((T.getD i []).getD j []).length ≤ maxLen) := hp
  rw [hrl] at g ⊢
  have HG : Hid (0 < T.length → ∃ b off, a = some ⟨b, off, none⟩ ∧ b < w.heap.size ∧ ∀ i, i < T.length → w.cell? ⟨b, off + i, none⟩ = some (rs.getD i (.bool false))) := g
  clear hR hr g hp
  go_enter Tryd.func35, Tryd.ntmps35
  go_wp2
  go_loopw [6, 8, 11] (fun _ _ i wr => ∃ k : Nat, k ≤ T.length ∧ i = .int .i64 k ∧ Hid (∀ i, i < k → ∀ j, j < (T.getD i []).length → mayB ((T.getD i []).getD j []) = true) ∧ Below w.heap.size w wr) (fun _ _ i _ => T.length - (intOf i).toNat)
  case atStart => exact ⟨0, Nat.zero_le _, rfl, fun i hi => absurd hi (Nat.not_lt_zero _), Below.refl _ _⟩
  case round =>
    rename World => W1
    obtain ⟨k, hk, rfl, hA, hb⟩ := hrel
    by_cases hlt : k < T.length
    · obtain ⟨b, off, rfl, hbw, hc⟩ := HG.out (by omega)
      have c0 := bcell hb hbw (hc k hlt)
      obtain ⟨ps, hpl, ⟨a2, cap2, hv2, g2⟩, hPs⟩ := HR.out k hlt
      rw [hv2, hpl] at c0
      rw [hpl] at g2
      have hlk : (T.getD k []).length ≤ 6 := HL.out k hlt
      have hbr : b < W1.heap.size := Nat.lt_of_lt_of_le hbw hb.size
      have HPs : Hid (∀ j, j < (T.getD k []).length → Poly w w.heap.size (ps.getD j (.bool false)) ((T.getD k []).getD j [])) := hPs
      have HG2 : Hid (0 < (T.getD k []).length → ∃ b off, a2 = some ⟨b, off, none⟩ ∧ b < w.heap.size ∧ ∀ i, i < (T.getD k []).length → w.cell? ⟨b, off + i, none⟩ = some (ps.getD i (.bool false))) := g2
      have HPk : Hid (∀ j, j < (T.getD k []).length → ((T.getD k []).getD j []).length ≤ maxLen) := HP.out k hlt
      have HN : Hid (∀ j, j < (T.getD k []).length → mayB ((T.getD k []).getD j []) = false → everyB mayB T = false) := fun j hj h => every_no hlt hj h
      have HA : Hid ((∀ j, j < (T.getD k []).length → mayB ((T.getD k []).getD j []) = true) → ∀ i, i < k + 1 → ∀ j, j < (T.getD i []).length → mayB ((T.getD i []).getD j []) = true) := fun h i hi => by
        by_cases e : i = k
        · rw [e]; exact h
        · exact hA.out i (by omega)
      clear hc hpl hv2 hA hPs g2
      generalize T.getD k [] = R at c0 hlk HPs HG2 HPk HN HA
      go_wp2
      go_loopw [8, 17] (fun _ i ws => ∃ j : Nat, j ≤ R.length ∧ i = .int .i64 j ∧ Hid (∀ i, i < j → mayB (R.getD i []) = true) ∧ Below w.heap.size w ws) (fun _ i _ => R.length - (intOf i).toNat)
      case atStart => exact ⟨0, Nat.zero_le _, rfl, fun i hi => absurd hi (Nat.not_lt_zero _), hb⟩
      case round =>
        rename World => W2
        obtain ⟨j, hj, rfl, hB, hb2⟩ := hrel
        by_cases hjl : j < R.length
        · obtain ⟨b2, off2, rfl, hbw2, hc2⟩ := HG2.out (by omega)
          have d0 := bcell hb2 hbw2 (hc2 j hjl)
          have hbr2 : b2 < W2.heap.size := Nat.lt_of_lt_of_le hbw2 hb2.size
          have HQ : Hid (Poly W2 W2.heap.size (ps.getD j (.bool false)) (R.getD j [])) := ((HPs.out j hjl).on hb2).mono hb2.size
          have HC : Hid ((R.getD j []).length ≤ maxLen) := HPk.out j hjl
          have HN1 : Hid (mayB (R.getD j []) = false → everyB mayB T = false) := HN.out j hjl
          have HB1 : Hid (mayB (R.getD j []) = true → ∀ i, i < j + 1 → mayB (R.getD i []) = true) := fun h i hi => by
            by_cases e : i = j
            · rw [e]; exact h
            · exact hB.out i (by omega)
          clear hc2 hB c0
          generalize ps.getD j (.bool false) = pv at d0 HQ
          generalize R.getD j [] = l at HQ HC HN1 HB1
          cases hg : mayB l with
          | true =>
            have HGT : Hid (mayB l = true) := hg
            clear hg
            go_wp2_with (go_at_call 23; refine (mayBe_poly _ l _ HC.out HQ.out).mono ?_; rw [HGT.out]; rintro r w3 ⟨rfl, hb3⟩)
            go_roundw
            case rel => exact ⟨j + 1, by omega, by go_num, HB1.out HGT.out, hb2.trans (hb3.mono hb2.size)⟩
            case measure => simp only [intOf]; omega
          | false =>
            have e := HN1.out hg
            have HGT : Hid (mayB l = false) := hg
            have HE : Hid (everyB mayB T = false) := e
            clear hg e
            go_wp2_with (go_at_call 23; refine (mayBe_poly _ l _ HC.out HQ.out).mono ?_; rw [HGT.out]; rintro r w3 ⟨rfl, hb3⟩)
            go_ret
            exact ⟨ret_bool HE.out, hb2.trans (hb3.mono hb2.size)⟩
        · obtain rfl : j = R.length := by omega
          go_wp2
          go_roundw
          case rel => exact ⟨k + 1, by omega, by go_num, HA.out hB.out, hb2⟩
          case measure => simp only [intOf]; omega
    · obtain rfl : k = T.length := by omega
      have e : everyB mayB T = true := (every_iff _ T).2 hA.out
      go_wp2
      go_ret
      exact ⟨ret_bool e, hb⟩

set_option maxHeartbeats 1000000 in
set_option maxRecDepth 100000 in
theorem every_few (v : Value) (T : List (List (List (Int × Int)))) (w : World) (hl : T.length ≤ 6) (hr : ∀ i, i < T.length → (T.getD i []).length ≤ 6) (hp : ∀ i, i < T.length → ∀ j, j < (T.getD i []).length → mayB ((T.getD i []).getD j []) = true) (h : Table w w.heap.size v T) :
    Calls Tryd.prog 35 #[v, .func (.func 36) #[] #[]] w fun e w' => e = .returned (.bool (everyB fewB T)) ∧ Below w.heap.size w w' := by
  obtain ⟨rs, hrl, ⟨a, cap, rfl, g⟩, hR⟩ := h
  have HR : Hid (∀ i, i < T.length → Row w w.heap.size (rs.getD i (.bool false)) (T.getD i [])) := hR
  have HL : Hid (∀ i, i < T.length → (T.getD i []).length ≤ 6) := hr
  have HP : Hid (∀ i, i < T.length → ∀ j, j < (T.getD i []).length → mayB ((T.getD i []).getD j []) = true) := hp
  rw [hrl] at g ⊢
  have HG : Hid (0 < T.length → ∃ b off, a = some ⟨b, off, none⟩ ∧ b < w.heap.size ∧ ∀ i, i < T.length → w.cell? ⟨b, off + i, none⟩ = some (rs.getD i (.bool false))) := g
  clear hR hr g hp
  go_enter Tryd.func35, Tryd.ntmps35
  go_wp2
  go_loopw [6, 8, 11] (fun _ _ i wr => ∃ k : Nat, k ≤ T.length ∧ i = .int .i64 k ∧ Hid (∀ i, i < k → ∀ j, j < (T.getD i []).length → fewB ((T.getD i []).getD j []) = true) ∧ Below w.heap.size w wr) (fun _ _ i _ => T.length - (intOf i).toNat)
  case atStart => exact ⟨0, Nat.zero_le _, rfl, fun i hi => absurd hi (Nat.not_lt_zero _), Below.refl _ _⟩
  case round =>
    rename World => W1
    obtain ⟨k, hk, rfl, hA, hb⟩ := hrel
    by_cases hlt : k < T.length
    · obtain ⟨b, off, rfl, hbw, hc⟩ := HG.out (by omega)
      have c0 := bcell hb hbw (hc k hlt)
      obtain ⟨ps, hpl, ⟨a2, cap2, hv2, g2⟩, hPs⟩ := HR.out k hlt
      rw [hv2, hpl] at c0
      rw [hpl] at g2
      have hlk : (T.getD k []).length ≤ 6 := HL.out k hlt
      have hbr : b < W1.heap.size := Nat.lt_of_lt_of_le hbw hb.size
      have HPs : Hid (∀ j, j < (T.getD k []).length → Poly w w.heap.size (ps.getD j (.bool false)) ((T.getD k []).getD j [])) := hPs
      have HG2 : Hid (0 < (T.getD k []).length → ∃ b off, a2 = some ⟨b, off, none⟩ ∧ b < w.heap.size ∧ ∀ i, i < (T.getD k []).length → w.cell? ⟨b, off + i, none⟩ = some (ps.getD i (.bool false))) := g2
      have HPk : Hid (∀ j, j < (T.getD k []).length → mayB ((T.getD k []).getD j []) = true) := HP.out k hlt
      have HN : Hid (∀ j, j < (T.getD k []).length → fewB ((T.getD k []).getD j []) = false → everyB fewB T = false) := fun j hj h => every_no hlt hj h
      have HA : Hid ((∀ j, j < (T.getD k []).length → fewB ((T.getD k []).getD j []) = true) → ∀ i, i < k + 1 → ∀ j, j < (T.getD i []).length → fewB ((T.getD i []).getD j []) = true) := fun h i hi => by
        by_cases e : i = k
        · rw [e]; exact h
        · exact hA.out i (by omega)
      clear hc hpl hv2 hA hPs g2
      generalize T.getD k [] = R at c0 hlk HPs HG2 HPk HN HA
      go_wp2
      go_loopw [8, 17] (fun _ i ws => ∃ j : Nat, j ≤ R.length ∧ i = .int .i64 j ∧ Hid (∀ i, i < j → fewB (R.getD i []) = true) ∧ Below w.heap.size w ws) (fun _ i _ => R.length - (intOf i).toNat)
      case atStart => exact ⟨0, Nat.zero_le _, rfl, fun i hi => absurd hi (Nat.not_lt_zero _), hb⟩
      case round =>
        rename World => W2
        obtain ⟨j, hj, rfl, hB, hb2⟩ := hrel
        by_cases hjl : j < R.length
        · obtain ⟨b2, off2, rfl, hbw2, hc2⟩ := HG2.out (by omega)
          have d0 := bcell hb2 hbw2 (hc2 j hjl)
          have hbr2 : b2 < W2.heap.size := Nat.lt_of_lt_of_le hbw2 hb2.size
          have HQ : Hid (Poly W2 W2.heap.size (ps.getD j (.bool false)) (R.getD j [])) := ((HPs.out j hjl).on hb2).mono hb2.size
          have HC : Hid (mayB (R.getD j []) = true) := HPk.out j hjl
          have HN1 : Hid (fewB (R.getD j []) = false → everyB fewB T = false) := HN.out j hjl
          have HB1 : Hid (fewB (R.getD j []) = true → ∀ i, i < j + 1 → fewB (R.getD i []) = true) := fun h i hi => by
            by_cases e : i = j
            · rw [e]; exact h
            · exact hB.out i (by omega)
          clear hc2 hB c0
          generalize ps.getD j (.bool false) = pv at d0 HQ
          generalize R.getD j [] = l at HQ HC HN1 HB1
          cases hg : fewB l with
          | true =>
            have HGT : Hid (fewB l = true) := hg
            clear hg
            go_wp2_with (go_at_call 36; refine (small_poly_few _ l _ HC.out HQ.out).mono ?_; rw [HGT.out]; rintro r w3 ⟨rfl, hb3⟩)
            go_roundw
            case rel => exact ⟨j + 1, by omega, by go_num, HB1.out HGT.out, hb2.trans (hb3.mono hb2.size)⟩
            case measure => simp only [intOf]; omega
          | false =>
            have e := HN1.out hg
            have HGT : Hid (fewB l = false) := hg
            have HE : Hid (everyB fewB T = false) := e
            clear hg e
            go_wp2_with (go_at_call 36; refine (small_poly_few _ l _ HC.out HQ.out).mono ?_; rw [HGT.out]; rintro r w3 ⟨rfl, hb3⟩)
            go_ret
            exact ⟨ret_bool HE.out, hb2.trans (hb3.mono hb2.size)⟩
        · obtain rfl : j = R.length := by omega
          go_wp2
          go_roundw
          case rel => exact ⟨k + 1, by omega, by go_num, HA.out hB.out, hb2⟩
          case measure => simp only [intOf]; omega
    · obtain rfl : k = T.length := by omega
      have e : everyB fewB T = true := (every_iff _ T).2 hA.out
      go_wp2
      go_ret
      exact ⟨ret_bool e, hb⟩
end Go.Proofs.YthbhllomikfbhaaDoor.Poly
