/- The walk of ref.wholeAt. -/
import Derived.Test.YthbhllomikfbhaaDoorPR5m
import Derived.Test.YthbhllomikfbhaaDoorPR3
namespace Go.Proofs.YthbhllomikfbhaaDoor.Poly
open Go.RowKit

/-- A sign of a text. -/
theorem idx_any {L : List UInt8} {k : Nat} {b : UInt8} (h : L[k]? = some b) (W : World) : (Instr.index 9 (.string ⟨L.toArray⟩) (.int .i64 (k : Nat))).run Tryd.prog W = .ok (.int .u8 (b.toNat : Nat)) W := by
  have hk : k < L.length := (List.getElem?_eq_some_iff.1 h).1
  have hL : L[k] = b := by have := List.getElem?_eq_getElem hk; rw [h] at this; exact (Option.some.inj this).symm
  have e : (((k : Nat) : Int)).toNat = k := by omega
  rw [run_index_string W 9 ⟨L.toArray⟩ .i64 (k : Nat) Tryd.underlying9, dif_pos ⟨by omega, by rw [arr_size]; omega⟩]
  have h2 : (⟨L.toArray⟩ : ByteArray)[(((k : Nat) : Int)).toNat]'(by rw [arr_size]; omega) = b := by
    show L[(((k : Nat) : Int)).toNat]'(by omega) = b
    simp only [e]
    exact hL
  rw [h2]
theorem idx_eq {L : List UInt8} {k n : Nat} {b : UInt8} (h : L[k]? = some b) (hn : b.toNat = n) (W : World) : (Instr.index 9 (.string ⟨L.toArray⟩) (.int .i64 (k : Nat))).run Tryd.prog W = .ok (.int .u8 (n : Nat)) W := by
  subst hn
  exact idx_any h W
theorem tw_all (p : UInt8 → Bool) : ∀ l : List UInt8, ∀ b ∈ l.takeWhile p, p b = true := by
  intro l
  induction l with
  | nil => intro b hb; simp at hb
  | cons x r ih =>
    intro b hb
    rw [List.takeWhile_cons] at hb
    by_cases hx : p x = true
    · rw [if_pos hx] at hb
      rcases List.mem_cons.1 hb with h | h
      · rw [h]; exact hx
      · exact ih b h
    · rw [if_neg hx] at hb; cases hb
theorem dgs_len (L : List UInt8) (i : Nat) : (dgs L i).length ≤ 7 ∧ i + (dgs L i).length ≤ max i L.length := by
  have h1 := (List.takeWhile_prefix (p := dgB) (l := (L.drop i).take 7)).length_le
  rw [List.length_take, List.length_drop] at h1
  unfold dgs
  omega
theorem dgs_at (L : List UInt8) (i j : Nat) (hj : j < (dgs L i).length) : ∃ b, L[i + j]? = some b ∧ dgB b = true ∧ (dgs L i)[j]? = some b := by
  have h1 : (dgs L i) <+: L.drop i := (List.takeWhile_prefix _).trans (List.take_prefix 7 _)
  obtain ⟨t, ht⟩ := h1
  have h2 : (dgs L i)[j]? = some ((dgs L i)[j]'hj) := List.getElem?_eq_getElem hj
  refine ⟨(dgs L i)[j]'hj, ?_, tw_all _ _ _ (List.getElem_mem hj), h2⟩
  rw [← List.getElem?_drop, ← ht, List.getElem?_append_left hj, h2]
theorem dgs_end (L : List UInt8) (i : Nat) (h3 : (dgs L i).length < 7) (b : UInt8) (hb : L[i + (dgs L i).length]? = some b) : dgB b = false := by
  cases hd : dgB b with
  | false => rfl
  | true =>
    exfalso
    obtain ⟨n, hn⟩ : ∃ n, (dgs L i).length = n := ⟨_, rfl⟩
    rw [hn] at hb h3
    have h1 : ((L.drop i).take 7)[n]? = some b := by
      rw [List.getElem?_take_of_lt h3, List.getElem?_drop]; exact hb
    have h2 : ∀ (p : UInt8 → Bool) (l : List UInt8) (n : Nat), (l.takeWhile p).length = n → ∀ b, l[n]? = some b → p b = false := by
      intro p l
      induction l with
      | nil => intro n _ b hb; simp at hb
      | cons x r ih =>
        intro n hn b hb
        rw [List.takeWhile_cons] at hn
        by_cases hx : p x = true
        · rw [if_pos hx, List.length_cons] at hn
          cases n with
          | zero => omega
          | succ n => exact ih n (by omega) b (by simpa using hb)
        · rw [if_neg hx, List.length_nil] at hn
          subst hn
          simp at hb
          rw [← hb]
          simpa using hx
    have h4 := h2 dgB ((L.drop i).take 7) n hn b h1
    rw [hd] at h4
    cases h4
theorem numOf_snoc (l : List UInt8) (b : UInt8) : numOf (l ++ [b]) = 10 * numOf l + (b.toNat - 48) := by
  unfold numOf
  rw [List.foldl_append]
  rfl
theorem num_lt (D : List UInt8) (hD : ∀ b ∈ D, dgB b = true) : ∀ j, j ≤ D.length → numOf (D.take j) < 10 ^ j := by
  intro j
  induction j with
  | zero => intro _; rw [List.take_zero]; decide
  | succ j ih =>
    intro hj
    have h1 := ih (by omega)
    have h2 : D[j]? = some (D[j]'(by omega)) := List.getElem?_eq_getElem (by omega)
    have h3 := (dg_iff _).1 (hD _ (List.getElem_mem (show j < D.length by omega)))
    rw [List.take_add_one, h2]
    show numOf (D.take j ++ [D[j]]) < _
    rw [numOf_snoc, Nat.pow_succ]
    omega
theorem num_lt7 (L : List UInt8) (i j : Nat) (hj : j ≤ (dgs L i).length) : numOf ((dgs L i).take j) < 10000000 := by
  have h1 := num_lt (dgs L i) (tw_all _ _) j hj
  have h2 := (dgs_len L i).1
  have h3 : 10 ^ j ≤ 10 ^ 7 := Nat.pow_le_pow_right (by omega) (by omega)
  omega

set_option maxHeartbeats 8000000 in
set_option maxRecDepth 100000 in
theorem wholeAt_any (s : List UInt8) (k : Nat) (w : World) (hs : s.length ≤ 2000) (hk : k ≤ s.length) :
    Calls Tryd.prog 28 #[.string ⟨s.toArray⟩, .int .i64 (k : Nat)] w fun e w' => e = .returned (.tuple #[.int .i64 (numOf (dgs s k) : Nat), .int .i64 ((k + (dgs s k).length : Nat) : Int)]) ∧ w' = w := by
  have hz : (⟨s.toArray⟩ : ByteArray).size = s.length := arr_size s
  obtain ⟨hm7, hmL⟩ := dgs_len s k
  have HAT : Hid (∀ j, j < (dgs s k).length → ∃ b, s[k + j]? = some b ∧ dgB b = true ∧ (dgs s k)[j]? = some b) := fun j => dgs_at s k j
  have HEN : Hid ((dgs s k).length < 7 → ∀ b, s[k + (dgs s k).length]? = some b → dgB b = false) := dgs_end s k
  have HLT : Hid (∀ j, j ≤ (dgs s k).length → numOf ((dgs s k).take j) < 10000000) := fun j hj => num_lt7 s k j hj
  generalize dgs s k = D at hm7 hmL HAT HEN HLT ⊢
  obtain ⟨m, hm⟩ : ∃ m, D.length = m := ⟨_, rfl⟩
  rw [hm] at hm7 hmL HAT HEN HLT ⊢
  have HM := hid_of hm
  obtain ⟨A9, hA9⟩ : ∃ A, numOf D = A := ⟨_, rfl⟩
  have HA9 : Hid (numOf (D.take m) = A9) := by
    have h : numOf (D.take m) = A9 := by rw [List.take_of_length_le (by omega), hA9]
    exact h
  rw [hA9]
  obtain ⟨p9, hp9⟩ : ∃ p, k + m = p := ⟨_, rfl⟩
  rw [hp9]
  have HP9 := hid_of hp9
  have w7 : IntKind.i64.wrap ((k : Int) + 7) = (k : Int) + 7 := IntWalk.i64_in _ (by omega)
  have hmk : k + m ≤ s.length := by omega
  clear hm hA9 hp9 hmL
  go_enter Tryd.func28, Tryd.ntmps28
  go_wp2
  go_loopw [6, 7] (fun n i wr => ∃ j p A : Nat, j ≤ m ∧ A < 10000000 ∧ p ≤ 2000 ∧ k ≤ p ∧ p ≤ k + j ∧ k + j ≤ p ∧ n = .int .i64 A ∧ i = .int .i64 p ∧ wr = w ∧ Hid (numOf (D.take j) = A)) (fun _ i _ => k + m - (intOf i).toNat)
  case atStart => exact ⟨0, k, 0, Nat.zero_le _, by omega, by omega, Nat.le_refl _, Nat.le_refl _, Nat.le_refl _, rfl, rfl, rfl, (by rfl : numOf (D.take 0) = 0)⟩
  case round =>
    obtain ⟨j, p, A, hj, hA, hp2, hkp, hp0, hp1, rfl, rfl, rfl, HA⟩ := hrel
    have wp : IntKind.i64.wrap ((p : Int) + 1) = (p : Int) + 1 := IntWalk.i64_in _ (by omega)
    by_cases hjm : j < m
    · obtain ⟨b, g1, g2, g3⟩ := HAT.out j hjm
      obtain ⟨c, hc⟩ : ∃ c, b.toNat = c := ⟨_, rfl⟩
      have hpk : k + j = p := by omega
      rw [hpk] at g1
      have ix := idx_eq g1 hc
      have hd := (dg_iff b).1 g2
      rw [hc] at hd
      have HN : Hid (numOf (D.take (j + 1)) = 10 * A + (c - 48)) := by
        have h : numOf (D.take (j + 1)) = 10 * A + (c - 48) := by
          rw [List.take_add_one, g3]
          show numOf (D.take j ++ [b]) = _
          rw [numOf_snoc, HA.out, hc]
        exact h
      have hlt := HLT.out (j + 1) (by omega)
      rw [HN.out] at hlt
      have i1 : (p : Int) < (s.length : Int) := by omega
      have i2 : (p : Int) < (k : Int) + 7 := by omega
      have i3 : (48 : Int) ≤ (c : Int) := by omega
      have i4 : (c : Int) ≤ 57 := by omega
      have e2 : IntKind.u8.wrap ((c : Int) - 48) = (c : Int) - 48 := by simp [IntKind.wrap, IntKind.signed, IntKind.bits]; omega
      have e3 : IntKind.i64.wrap (10 * (A : Int)) = 10 * (A : Int) := IntWalk.i64_in _ (by omega)
      have e4 : IntKind.i64.wrap ((c : Int) - 48) = (c : Int) - 48 := IntWalk.i64_in _ (by omega)
      have e5 : IntKind.i64.wrap (10 * (A : Int) + ((c : Int) - 48)) = 10 * (A : Int) + ((c : Int) - 48) := IntWalk.i64_in _ (by omega)
      clear g1 g2 g3 hc hpk hd
      go_wp2
      go_roundw
      case rel => exact ⟨j + 1, p + 1, 10 * A + (c - 48), by omega, hlt, by omega, by omega, by omega, by omega, by congr 1; omega, by go_num, by first | rfl | trivial, HN⟩
      case measure => simp only [intOf]; omega
    · obtain rfl : j = m := by omega
      have e9 : A9 = A := HA9.out.symm.trans HA.out
      have HRES : Hid (A9 = A ∧ p9 = p) := ⟨e9, by have := HP9.out; omega⟩
      clear e9
      by_cases hpl : p < s.length
      · have i1 : (p : Int) < (s.length : Int) := by omega
        by_cases hp7 : p < k + 7
        · have i2 : (p : Int) < (k : Int) + 7 := by omega
          have g1 : s[p]? = some (s[p]'hpl) := List.getElem?_eq_getElem hpl
          obtain ⟨b, hb⟩ : ∃ b, s[p]'hpl = b := ⟨_, rfl⟩
          rw [hb] at g1
          obtain ⟨c, hc⟩ : ∃ c, b.toNat = c := ⟨_, rfl⟩
          have ix := idx_eq g1 hc
          have hnd := HEN.out (by omega) b (by rw [show k + j = p by omega]; exact g1)
          have hd : ¬ (48 ≤ c ∧ c ≤ 57) := fun e => by
            rw [← hc] at e
            rw [(dg_iff b).2 e] at hnd
            cases hnd
          clear g1 hb hc hnd
          by_cases h48 : 48 ≤ c
          · have i3 : (48 : Int) ≤ (c : Int) := by omega
            have i4 : ¬ (c : Int) ≤ 57 := by omega
            go_wp2
            go_ret2
            rw [HRES.out.1, HRES.out.2]
            exact ⟨rfl, rfl⟩
          · have i3 : ¬ (48 : Int) ≤ (c : Int) := by omega
            go_wp2
            go_ret2
            rw [HRES.out.1, HRES.out.2]
            exact ⟨rfl, rfl⟩
        · have i2 : ¬ (p : Int) < (k : Int) + 7 := by omega
          go_wp2
          go_ret2
          rw [HRES.out.1, HRES.out.2]
          exact ⟨rfl, rfl⟩
      · have i1 : ¬ (p : Int) < (s.length : Int) := by omega
        go_wp2
        go_ret2
        rw [HRES.out.1, HRES.out.2]
        exact ⟨rfl, rfl⟩
end Go.Proofs.YthbhllomikfbhaaDoor.Poly
