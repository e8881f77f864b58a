/- The walk of knotworkkeep.small: a polynomial in form, with small exponents and coefficients. -/
import Derived.Test.YthbhllomikfbhaaDoorXG1
namespace Go.Proofs.YthbhllomikfbhaaDoor.Poly
open Go.RowKit Go.Maps

/-- What the first k raw numbers may give. -/
def SmallTo (acc : List (Int × Int)) (k : Nat) : Prop := acc.Pairwise (fun a b => a.1 < b.1) ∧ ∀ t ∈ acc, t.2 ≠ 0 ∧ -4 ≤ t.1 ∧ t.1 < (k : Int) - 4 ∧ -9 ≤ t.2 ∧ t.2 ≤ 9

theorem small_skip {acc : List (Int × Int)} {k : Nat} (h : SmallTo acc k) : SmallTo acc (k + 1) :=
  ⟨h.1, fun t ht => by have := h.2 t ht; omega⟩
theorem small_more {acc : List (Int × Int)} {k : Nat} (h : SmallTo acc k) {c : Int} (hc : c ≠ 0) (h0 : -9 ≤ c) (h1 : c ≤ 9) : SmallTo (acc ++ [((k : Int) - 4, c)]) (k + 1) := by
  refine ⟨List.pairwise_append.2 ⟨h.1, by simp, fun a ha b hb => ?_⟩, fun t ht => ?_⟩
  · simp at hb
    subst hb
    have := (h.2 a ha).2.2.1
    exact this
  · rcases List.mem_append.1 ht with h' | h'
    · have := h.2 t h'; omega
    · simp at h'
      subst h'
      exact ⟨hc, by simp only; omega, by simp only; omega, h0, h1⟩
theorem small_fine {acc : List (Int × Int)} {k : Nat} (h : SmallTo acc k) (hk : k ≤ 9) : Fine acc 4 9 :=
  ⟨canon_self h.1 fun t ht => (h.2 t ht).1, fun t ht => by have := h.2 t ht; omega⟩

/-- A slice of raw numbers. -/
def Ints (w : World) (b off n : Nat) (X : Nat → Int) : Prop := ∀ i, i < n → w.cell? ⟨b, off + i, none⟩ = some (.int .i64 (X i)) ∧ -9223372036854775808 ≤ X i ∧ X i ≤ 9223372036854775807

set_option maxHeartbeats 2000000 in
set_option maxRecDepth 100000 in
theorem ksmall_some (b off cap n : Nat) (X : Nat → Int) (w : World) (hn : n ≤ maxLen) (hbw : b < w.heap.size) (hX : Ints w b off n X) :
    Calls Tryd.prog 15 #[.slice (some ⟨b, off, none⟩) n cap] w fun e w' => ∃ v l, e = .returned v ∧ w'.ownsRow w.heap.size 36 2 v l.length (flat l) ∧ Fine l 4 9 ∧ Below w.heap.size w w' := by
  obtain ⟨i0, hi, hz0, hz1, hz2⟩ := info_parts infoTerm
  have hn' : n ≤ 9223372036854775807 := by unfold maxLen at hn; omega
  have HX : Hid (Ints w b off n X) := hX
  clear hX hn
  go_enter Tryd.func15, Tryd.ntmps15
  go_wp2
  go_loopw [3, 4] (fun v i wr => ∃ (k : Nat) (acc : List (Int × Int)), k ≤ n ∧ k ≤ 9 ∧ i = .int .i64 k ∧ acc.length ≤ k ∧ wr.ownsRow w.heap.size 36 2 v acc.length (flat acc) ∧ Hid (SmallTo acc k) ∧ Below w.heap.size w wr) (fun _ i _ => 9 - (intOf i).toNat)
  case atStart => exact ⟨0, [], Nat.zero_le _, by omega, rfl, Nat.le_refl _, World.ownsRow_nil _ _ _ _, ⟨List.Pairwise.nil, fun t h => by cases h⟩, Below.refl _ _⟩
  case round =>
    obtain ⟨k, acc, hk, hk9, rfl, hlen, hrow, hS, hb⟩ := hrel
    have hsz := hb.size
    by_cases hlt : k < n
    · have d1 : decide ((k : Int) < (n : Int)) = true := by simpa using hlt
      by_cases h9 : k < 9
      · obtain ⟨hc0, hx0, hx1⟩ := HX.out k hlt
        have c0 := bcell hb hbw hc0
        have hbr : b < wr.heap.size := Nat.lt_of_lt_of_le hbw hsz
        generalize X k = x at c0 hx0 hx1
        clear hc0
        have HX0 : Hid (-9223372036854775808 ≤ x) := hx0
        have HX1 : Hid (x ≤ 9223372036854775807) := hx1
        clear hx0 hx1
        go_wp2_with (go_at_call 29; refine (picked_any x _ HX0.out HX1.out).mono ?_; rintro r w1 ⟨p, rfl, hp0, hp1, hb1⟩; refine Hid.out ?_)
        refine Lib.hid ?_
        have hrow1 := hrow.kept (grown_below hb1 none) (Classical.em _)
        have hb2 : Below w.heap.size w w1 := hb.trans (hb1.mono hsz)
        have hsz1 := hb2.size
        clear c0
        have hw1 : IntKind.i64.wrap (p - 9) = p - 9 := IntWalk.i64_in _ (by omega)
        have hw2 : IntKind.i64.wrap ((k : Int) - 4) = (k : Int) - 4 := IntWalk.i64_in _ (by omega)
        obtain ⟨c, hc⟩ : ∃ c : Int, c = p - 9 := ⟨_, rfl⟩
        have HC : Hid (-9 ≤ c ∧ c ≤ 9) := (⟨by omega, by omega⟩ : -9 ≤ c ∧ c ≤ 9)
        by_cases hz : c = 0
        · have hp9 : p = 9 := by omega
          subst hp9
          clear hw1
          go_wp2
          go_roundw
          case rel => exact ⟨k + 1, acc, by omega, by omega, by go_num, by omega, hrow1, small_skip hS.out, hb2⟩
          case measure => simp only [intOf]; omega
        · rw [← hc] at hw1
          have hcb : (p - 9 != 0) = true := by rw [bne_iff_ne]; omega
          have HZ : Hid (c ≠ 0) := hz
          have hpc : p - 9 = c := hc.symm
          clear hz hc
          go_wp2_with (first
            | (at_builtin; refine wpList_append_own _ rfl _ _ 22 rfl w.heap.size 36 i0 (.agg #[.int .i64 0, .int .i64 0]) 2 16 Tryd.underlying22 hi hz0 hz1 hz2 rfl (by decide) _ _ _ rfl (hrow1.alloc _) ⟨w1.heap.size, 0, none⟩ 1 1 [.int .i64 ((k : Int) - 4), .int .i64 c] rfl rfl (new_cells _ _ _) (pair_one _ _) (by unfold maxLen; omega) (by omega) (by simp; omega) ?_; intro v' w3 hown' hg3 _; go_frame)
            | go_in)
          go_roundw
          case rel =>
            refine ⟨k + 1, acc ++ [((k : Int) - 4, c)], by omega, by omega, by go_num, by simp; omega, ?_, small_more hS.out HZ.out HC.out.1 HC.out.2, (hb2.alloc hsz1 _).grown hg3 (by simp; omega) (fun j hj => (hrow1.lt j hj).1)⟩
            rw [flat_append, List.length_append]
            exact hown'
          case measure => simp only [intOf]; omega
      · obtain rfl : k = 9 := by omega
        go_wp2
        go_ret
        exact ⟨_, acc, rfl, hrow, small_fine hS.out (by omega), hb⟩
    · obtain rfl : k = n := by omega
      go_wp2
      go_ret
      exact ⟨_, acc, rfl, hrow, small_fine hS.out hk9, hb⟩

set_option maxHeartbeats 1000000 in
theorem ksmall_none (a : Option Addr) (cap : Nat) (w : World) :
    Calls Tryd.prog 15 #[.slice a 0 cap] w fun e w' => ∃ v l, e = .returned v ∧ w'.ownsRow w.heap.size 36 2 v l.length (flat l) ∧ Fine l 4 9 ∧ Below w.heap.size w w' := by
  go_enter Tryd.func15, Tryd.ntmps15
  go_wp2
  go_loopw [3, 4] (fun v i wr => v = .slice none 0 0 ∧ i = .int .i64 0 ∧ Below w.heap.size w wr) (fun _ _ _ => 0)
  case atStart => exact ⟨rfl, rfl, Below.refl _ _⟩
  case round =>
    obtain ⟨rfl, rfl, hb⟩ := hrel
    go_wp2
    go_ret
    exact ⟨_, [], rfl, World.ownsRow_nil _ _ _ _, small_fine (k := 0) ⟨List.Pairwise.nil, fun t h => by cases h⟩ (by omega), hb⟩
end Go.Proofs.YthbhllomikfbhaaDoor.Poly
