/- The walks of poly.parsedPower and poly.parsedTerm. -/
import Derived.Test.YthbhllomikfbhaaDoorPRShelf
import Derived.Test.YthbhllomikfbhaaDoorPR0
import Derived.Test.YthbhllomikfbhaaDoorPT4
import Derived.Lib.AtoiErrMem
import Derived.Lib.Split
import Derived.Laws.IdiomStrings
namespace Go.Proofs.YthbhllomikfbhaaDoor.Poly
open Go.RowKit

theorem hid_of {p : Prop} (h : p) : Hid p := h
theorem arr_size (l : List UInt8) : (⟨l.toArray⟩ : ByteArray).size = l.length := by simp [ByteArray.size]
theorem glob_lt {w : World} {g : Nat} {v : Value} (h : w.cell? ⟨g, 0, none⟩ = some v) : g < w.heap.size := by
  rcases Nat.lt_or_ge g w.heap.size with h1 | h1
  · exact h1
  · simp [World.cell?, Array.getElem?_eq_none h1] at h
theorem belowN {B : Nat} {w w' : World} (h : Below B w w') (n : Nat) : Below B w (w'.drewN n) := ⟨h.os, h.tape, h.output, h.size, h.block⟩
/-- The variables that strings.Index and strconv.Atoi read lie there. -/
structure RdVars (w : World) : Prop where
  max : ∃ m, w.cell? ⟨1, 0, none⟩ = some (.int .i64 m)
  syn : ∃ te pe, w.cell? ⟨2, 0, none⟩ = some (.iface te pe)
  rng : ∃ te pe, w.cell? ⟨3, 0, none⟩ = some (.iface te pe)
theorem RdVars.on {w w' : World} (h : RdVars w) (hb : Below w.heap.size w w') : RdVars w' := by
  obtain ⟨⟨m, hm⟩, ⟨a, b, h1⟩, ⟨c, d, h2⟩⟩ := h
  exact ⟨⟨m, (hb.cell (p := ⟨1, 0, none⟩) (glob_lt hm)).trans hm⟩, ⟨a, b, (hb.cell (p := ⟨2, 0, none⟩) (glob_lt h1)).trans h1⟩, ⟨c, d, (hb.cell (p := ⟨3, 0, none⟩) (glob_lt h2)).trans h2⟩⟩
theorem atoi_yes (l : List UInt8) (n : Int) (w : World) (hl : l.length ≤ 10000) (h : numA l = some n) :
    Calls Tryd.prog 64 #[.string ⟨l.toArray⟩] w fun e w' => e = .returned (.tuple #[.int .i64 n, .nilIface]) ∧ Below w.heap.size w w' := by
  have h1 : Lib.atoiAll l = .ok n := by
    unfold numA at h
    cases hx : Lib.atoiAll l with
    | ok v => rw [hx] at h; simp only [Option.some.injEq] at h; rw [h]
    | «syntax» => rw [hx] at h; cases h
    | range => rw [hx] at h; cases h
  refine (Tryd.strconv_Atoi_ok ⟨l.toArray⟩ (by rw [arr_size]; omega) n (by simpa using h1) w).mono ?_
  rintro e w' ⟨rfl, hw⟩
  refine ⟨rfl, ?_⟩
  rcases hw with rfl | ⟨t, rfl⟩
  · exact Below.refl _ _
  · exact Lib.bytesWorld_below _ _ _
theorem atoi_no (l : List UInt8) (w : World) (hl : l.length ≤ 10000) (h : numA l = none) (hV : RdVars w) :
    Calls Tryd.prog 64 #[.string ⟨l.toArray⟩] w fun e w' => ∃ (v : Int) (N : Nat), e = .returned (.tuple #[.int .i64 v, .iface 126 (.pointer (some ⟨N, 0, none⟩))]) ∧ Below w.heap.size w w' := by
  obtain ⟨-, ⟨a, b, h1⟩, ⟨c, d, h2⟩⟩ := hV
  have hs : (⟨l.toArray⟩ : ByteArray).size ≤ 281474976710656 := by rw [arr_size]; omega
  unfold numA at h
  cases hx : Lib.atoiAll l with
  | ok v => rw [hx] at h; cases h
  | «syntax» =>
    refine (Tryd.strconv_Atoi_syntax ⟨l.toArray⟩ hs (by simpa using hx) _ w h1 (.inr ⟨a, b, rfl⟩)).mono ?_
    rintro e w' ⟨N, rfl, -, -, hb⟩
    exact ⟨_, N, rfl, hb⟩
  | range =>
    refine (Tryd.strconv_Atoi_range ⟨l.toArray⟩ hs (by simpa using hx) _ w h2 (.inr ⟨c, d, rfl⟩)).mono ?_
    rintro e w' ⟨N, rfl, -, -, hb⟩
    exact ⟨_, N, rfl, hb⟩
theorem cutPre (l p : List UInt8) (w : World) :
    Calls Tryd.prog 45 #[.string ⟨l.toArray⟩, .string ⟨p.toArray⟩] w fun e w' => e = .returned (.tuple #[.string ⟨(Lib.trimPrefix l p).toArray⟩, .bool (Lib.hasPrefix l p)]) ∧ w' = w := by
  have := Tryd.strings_CutPrefix ⟨l.toArray⟩ ⟨p.toArray⟩ w
  simpa using this
theorem trim_len (l p : List UInt8) : (Lib.trimPrefix l p).length ≤ l.length := by
  unfold Lib.trimPrefix
  split
  · rw [List.length_drop]; omega
  · exact Nat.le_refl _

set_option maxHeartbeats 4000000 in
set_option maxRecDepth 100000 in
theorem parsedPower_yes (s : List UInt8) (n : Int) (w : World) (hl : s.length ≤ 10000) (h : powP s = some n) :
    Calls Tryd.prog 62 #[.string ⟨s.toArray⟩] w fun e w' => e = .returned (.tuple #[.int .i64 n, .bool true]) ∧ Below w.heap.size w w' := by
  unfold powP at h
  by_cases h1 : s = [116]
  · rw [if_pos h1] at h
    obtain rfl := Option.some.inj h
    subst h1
    go_enter Tryd.func62, Tryd.ntmps62
    go_wp2
    go_ret2
    exact ⟨rfl, Below.refl _ _⟩
  · rw [if_neg h1] at h
    by_cases h2 : Lib.hasPrefix s [116, 94] = true
    · rw [if_pos h2] at h
      have he : (s == [116]) = false := beq_eq_false_iff_ne.2 h1
      have HC := hid_of (cutPre s [116, 94] w)
      rw [h2] at HC
      have HL := hid_of (Nat.le_trans (trim_len s [116, 94]) hl)
      generalize Lib.trimPrefix s [116, 94] = q at h HC HL
      have HA : Hid (∀ W : World, Calls Tryd.prog 64 #[.string ⟨q.toArray⟩] W fun e w' => e = .returned (.tuple #[.int .i64 n, .nilIface]) ∧ Below W.heap.size W w') := fun W => atoi_yes q n W HL.out h
      clear h h1 h2 hl
      go_enter Tryd.func62, Tryd.ntmps62
      go_wp2_with (first
        | (go_at_call 45; refine HC.out.mono ?_; rintro e w' ⟨rfl, rfl⟩)
        | (go_at_call 64; refine (HA.out _).mono ?_; rintro e w' ⟨rfl, hb⟩))
      go_quiet (fail)
      go_wp2
      go_ret2
      exact ⟨rfl, belowN hb _⟩
    · rw [if_neg h2] at h
      cases h

set_option maxHeartbeats 4000000 in
set_option maxRecDepth 100000 in
theorem parsedPower_no (s : List UInt8) (w : World) (hl : s.length ≤ 10000) (h : powP s = none) (hV : RdVars w) :
    Calls Tryd.prog 62 #[.string ⟨s.toArray⟩] w fun e w' => ∃ n : Int, e = .returned (.tuple #[.int .i64 n, .bool false]) ∧ Below w.heap.size w w' := by
  unfold powP at h
  by_cases h1 : s = [116]
  · rw [if_pos h1] at h; cases h
  · rw [if_neg h1] at h
    have he : (s == [116]) = false := beq_eq_false_iff_ne.2 h1
    have HC := hid_of (cutPre s [116, 94] w)
    by_cases h2 : Lib.hasPrefix s [116, 94] = true
    · rw [if_pos h2] at h
      rw [h2] at HC
      have HL := hid_of (Nat.le_trans (trim_len s [116, 94]) hl)
      generalize Lib.trimPrefix s [116, 94] = q at h HC HL
      have HA := hid_of (atoi_no q w HL.out h hV)
      clear h h1 h2 hl hV
      go_enter Tryd.func62, Tryd.ntmps62
      go_wp2_with (first
        | (go_at_call 45; refine HC.out.mono ?_; rintro e w' ⟨rfl, rfl⟩)
        | (go_at_call 64; refine HA.out.mono ?_; rintro e w' ⟨v, N, rfl, hb⟩))
      go_quiet (fail)
      go_wp2
      go_ret2
      exact ⟨_, rfl, belowN hb _⟩
    · have h3 : Lib.hasPrefix s [116, 94] = false := by simpa using h2
      rw [h3] at HC
      generalize Lib.trimPrefix s [116, 94] = q at HC
      clear h h1 h2 hl hV h3
      go_enter Tryd.func62, Tryd.ntmps62
      go_wp2_with (first
        | (go_at_call 45; refine HC.out.mono ?_; rintro e w' ⟨rfl, rfl⟩))
      go_ret2
      exact ⟨_, rfl, Below.refl _ _⟩
end Go.Proofs.YthbhllomikfbhaaDoor.Poly
