/- The law TangleExpands: its walk. -/
import Derived.Test.YtbikalghmlihlaaTG6
namespace Go.Proofs.Ytbikalghmlihlaa
open Go.RowKit

theorem fix_len {p q : Nat} (hq : q ≤ 999) : (fixL (exL p q)).reverse.length ≤ 1000 := by
  have h : ∀ f a b, (exF f a b).length ≤ b := fun f => by
    induction f with
    | zero => intro a b; simp [exF]
    | succ f ih =>
      intro a b
      unfold exF
      by_cases h0 : b = 0
      · rw [if_pos h0]; simp
      · rw [if_neg h0]
        have h1 := ih b (a % b)
        have h2 := Nat.mod_lt a (show 0 < b by omega)
        simp only [List.length_cons]
        omega
  have h2 : (exL p q).length ≤ q := h _ _ _
  rw [List.length_reverse]
  unfold fixL
  split
  · simp; omega
  · omega

set_option maxHeartbeats 4000000 in
set_option maxRecDepth 100000 in
theorem tangleExpands_any (p q : Int) (w : World) :
    Calls Try.prog 13 #[.int .i64 p, .int .i64 q] w fun e w' => e = .returned (.bool true) ∧ Below w.heap.size w w' := by
  have HP : Hid (∀ W, Calls Try.prog 58 #[.int .i64 p, .int .i64 q] W fun e w' => e = .returned (.bool (lowB p q)) ∧ Below W.heap.size W w') := fun W => lowestIs_any p q W
  by_cases h : lowB p q = false
  · have HS : Hid (∀ W, Calls Try.prog 57 #[.int .i64 p, .int .i64 q] W fun e w' => e = .returned (.tuple #[.slice none 0 0, .int .i64 3]) ∧ Below W.heap.size W w') := fun W => expand_no p q W h
    rw [h] at HP
    clear h
    go_enter Try.func13, Try.ntmps13
    go_wp2_with (go_at_call 57; refine (HS.out _).mono ?_; rintro e9 w2 ⟨rfl, hb2⟩; refine Hid.out ?_)
    refine Lib.hid ?_
    have HB2 : Hid (Below w.heap.size w w2) := hb2
    clear hb2
    go_wp2_with (go_at_call 58; refine (HP.out _).mono ?_; rintro e9 w3 ⟨rfl, hb3⟩; refine Hid.out ?_)
    refine Lib.hid ?_
    have HB3 : Hid (Below w.heap.size w w3) := HB2.out.trans (hb3.mono HB2.out.size)
    clear hb3
    go_wp2
    go_ret
    exact ⟨rfl, HB3.out⟩
  · have h1 : lowB p q = true := (Bool.not_eq_false _).mp h
    have HS : Hid (∀ W, Calls Try.prog 57 #[.int .i64 p, .int .i64 q] W fun e w' => ∃ a c, e = .returned (.tuple #[.slice a (fixL (exL p.toNat q.toNat)).reverse.length c, .int .i64 0]) ∧ w'.ownsRow W.heap.size 3 1 (.slice a (fixL (exL p.toNat q.toNat)).reverse.length c) (fixL (exL p.toNat q.toNat)).reverse.length (intsV (fixL (exL p.toNat q.toNat)).reverse) ∧ Below W.heap.size W w') := fun W => expand_yes p q W h1
    rw [h1] at HP
    obtain ⟨a1, a2, a3, a4, -⟩ := lowB_yes h1
    have a5 : p = 1 ∧ q = 1 ∨ q < p := by
      have := of_decide_eq_true (show decide ((p = 1 ∧ q = 1) ∨ (p ≤ 1000 ∧ 0 < q ∧ q < p ∧ Nat.gcd p.toNat q.toNat = 1)) = true from h1)
      rcases this with h | h
      · exact Or.inl h
      · exact Or.inr h.2.2.1
    obtain ⟨m, rfl⟩ : ∃ m : Nat, p = (m : Int) := ⟨p.toNat, by omega⟩
    obtain ⟨n, rfl⟩ : ∃ n : Nat, q = (n : Int) := ⟨q.toNat, by omega⟩
    rw [Int.toNat_natCast, Int.toNat_natCast] at HS
    have HE : Hid (∀ W, Calls Try.prog 59 #[.int .i64 (m : Nat), .int .i64 (n : Nat)] W fun e w' => ∃ v, e = .returned v ∧ w'.ownsRow W.heap.size 3 1 v (fixL (exL m n)).reverse.length (intsV (fixL (exL m n)).reverse) ∧ Below W.heap.size W w') := fun W => expandOf_any m n W (by omega) (by omega) (by omega)
    have hFL : (fixL (exL m n)).reverse.length ≤ 1000 := fix_len (by omega)
    generalize (fixL (exL m n)).reverse = F at HE HS hFL
    clear h h1 a1 a2 a3 a4 a5
    go_enter Try.func13, Try.ntmps13
    go_wp2_with (go_at_call 57; refine (HS.out _).mono ?_; rintro e9 w2 ⟨a2, c2, rfl, hr2, hb2⟩; refine Hid.out ?_)
    refine Lib.hid ?_
    have HB2 : Hid (Below w.heap.size w w2) := hb2
    have HR2 : Hid (w2.ownsRow w.heap.size 3 1 (.slice a2 F.length c2) F.length (intsV F)) := hr2
    clear hb2 hr2
    go_wp2_with (go_at_call 58; refine (HP.out _).mono ?_; rintro e9 w3 ⟨rfl, hb3⟩; refine Hid.out ?_)
    refine Lib.hid ?_
    have HB23 : Hid (Below w2.heap.size w2 w3) := hb3
    have HB3 : Hid (Below w.heap.size w w3) := HB2.out.trans (hb3.mono HB2.out.size)
    clear hb3
    go_wp2_with (go_at_call 59; refine (HE.out _).mono ?_; rintro e9 w4 ⟨v4, rfl, hr4, hb4⟩; refine Hid.out ?_)
    refine Lib.hid ?_
    have HB4 : Hid (Below w.heap.size w w4) := HB3.out.trans (hb4.mono HB3.out.size)
    have HS2 : Hid (Slots w4 w4.heap.size (.slice a2 F.length c2) (intsV F)) := ((((slots_of_own HR2.out).on HB23.out).mono HB23.out.size).on hb4).mono hb4.size
    have HS4 : Hid (Slots w4 w4.heap.size v4 (intsV F)) := slots_of_own hr4
    clear hb4 hr4
    go_wp2_with (go_at_call 40; refine (sameInts_eqI _ _ F _ hFL HS2.out HS4.out).mono ?_; rintro e9 w5 ⟨rfl, hb5⟩; refine Hid.out ?_)
    refine Lib.hid ?_
    have HB5 : Hid (Below w.heap.size w w5) := HB4.out.trans (hb5.mono HB4.out.size)
    clear hb5
    go_wp2
    go_ret
    exact ⟨by first | rfl | simp, HB5.out⟩
end Go.Proofs.Ytbikalghmlihlaa
