/- The walk of the law knotworklaw.PolySums itself: it answers true. -/
import Derived.Test.YtfceigcjonlhkaaPB6
import Derived.Test.YtfceigcjonlhkaaPA12
namespace Go.Proofs.Ytfceigcjonlhkaa.Poly
open Go.RowKit Go.Maps

set_option maxHeartbeats 400000 in
theorem prod_none1 (a : Option Addr) (cap : Nat) (v2 : Value) (w : World) :
    Calls Try.prog 83 #[.slice a 0 cap, v2] w fun e w' => e = .returned (.slice none 0 0) ∧ Below w.heap.size w w' := by
  go_enter Try.func83, Try.ntmps83
  go_wp2
  go_loopw [5, 6, 7] (fun v i _ wr => v = .slice none 0 0 ∧ i = .int .i64 0 ∧ Below w.heap.size w wr) (fun _ _ _ _ => 0)
  case atStart => exact ⟨rfl, rfl, Below.refl _ _⟩
  case round =>
    obtain ⟨rfl, rfl, hb⟩ := hrel
    go_wp2
    go_ret
    exact ⟨rfl, hb⟩

set_option maxHeartbeats 400000 in
theorem prod_none2 (a1 a2 : Option Addr) (n cap1 cap2 : Nat) (w : World) (hn : n ≤ 64) :
    Calls Try.prog 83 #[.slice a1 n cap1, .slice a2 0 cap2] w fun e w' => e = .returned (.slice none 0 0) ∧ Below w.heap.size w w' := by
  go_enter Try.func83, Try.ntmps83
  go_wp2
  go_loopw [5, 6, 7] (fun v i _ wr => ∃ k : Nat, k ≤ n ∧ v = .slice none 0 0 ∧ i = .int .i64 k ∧ Below w.heap.size w wr) (fun _ i _ _ => n - (intOf i).toNat)
  case atStart => exact ⟨0, Nat.zero_le _, rfl, rfl, Below.refl _ _⟩
  case round =>
    obtain ⟨k, hk, rfl, rfl, hb⟩ := hrel
    by_cases hlt : k < n
    · go_wp2
      go_loopw [5, 7] (fun v j ws => v = .slice none 0 0 ∧ j = .int .i64 0 ∧ Below w.heap.size w ws) (fun _ _ _ => 0)
      case atStart => exact ⟨rfl, rfl, hb⟩
      case round =>
        clear hb
        obtain ⟨rfl, rfl, hb⟩ := hrel
        go_wp2
        go_roundw
        case rel => exact ⟨k + 1, by omega, rfl, by go_num, hb⟩
        case measure => simp [intOf]; omega
    · go_wp2
      go_ret
      exact ⟨rfl, hb⟩

theorem prodTo_nil (a : List (Int × Int)) : ∀ i, prodTo a [] i = []
  | 0 => rfl
  | i + 1 => by simp only [prodTo, rowTo, List.length_nil]; exact prodTo_nil a i

theorem prod_poly (v1 v2 : Value) (l1 l2 : List (Int × Int)) (w : World) (hm1 : mayB l1 = true) (hm2 : mayB l2 = true) (hP1 : Poly w w.heap.size v1 l1) (hP2 : Poly w w.heap.size v2 l2) :
    Calls Try.prog 83 #[v1, v2] w fun e w' => ∃ v, e = .returned v ∧ Poly w' w'.heap.size v (prodTo l1 l2 l1.length) ∧ Below w.heap.size w w' := by
  obtain ⟨a1, cap1, rfl, hp1⟩ := hP1.slice
  obtain ⟨a2, cap2, rfl, hp2⟩ := hP2.slice
  rcases Nat.eq_zero_or_pos l1.length with h1 | h1
  · have e0 : l1 = [] := List.length_eq_zero_iff.1 h1
    subst e0
    exact (prod_none1 a1 cap1 _ w).mono fun e w' ⟨h1, h2⟩ => ⟨_, h1, Or.inl ⟨rfl, rfl⟩, h2⟩
  · rcases Nat.eq_zero_or_pos l2.length with h2 | h2
    · have e0 : l2 = [] := List.length_eq_zero_iff.1 h2
      subst e0
      exact (prod_none2 a1 a2 l1.length cap1 cap2 w ((may_iff l1).1 hm1).1).mono fun e w' ⟨h1, h2⟩ => ⟨_, h1, Or.inl ⟨rfl, prodTo_nil l1 _⟩, h2⟩
    · obtain ⟨b1, off1, rfl, hlt1, hT1⟩ := hp1 h1
      obtain ⟨b2, off2, rfl, hlt2, hT2⟩ := hp2 h2
      exact (prod_some b1 off1 cap1 b2 off2 cap2 l1 l2 w hm1 hm2 hlt1 hT1 hlt2 hT2).mono fun e w' ⟨v, h1, h2, h3⟩ => ⟨v, h1, h2.1, h3⟩

/-- Any two lists in form for one function: sameTerms says yes. -/
theorem same_canon (v1 v2 : Value) (l1 l2 : List (Int × Int)) (f : Int → Int) (w : World) (hl : l1.length ≤ maxLen) (h1 : Poly w w.heap.size v1 l1) (h2 : Poly w w.heap.size v2 l2) (c1 : Canon l1 f) (c2 : Canon l2 f) :
    Calls Try.prog 40 #[v1, v2] w fun e w' => e = .returned (.bool true) ∧ Below w.heap.size w w' := by
  obtain rfl := canon_unique c1 c2
  refine (same_poly v1 v2 l1 l1 w hl h1 h2).mono ?_
  rintro e w' ⟨rfl, hb⟩
  exact ⟨ret_bool (by simp), hb⟩

end Go.Proofs.Ytfceigcjonlhkaa.Poly
