/- The walk of knotworkref.PolyMay: it answers whether a list of terms may be handed in; and small lemmas on worlds. -/
import Derived.Test.YthbhllomikfbhaaDoorRows
import Derived.Test.YthbhllomikfbhaaDoorPMath
import Derived.WalkKit
import Derived.WalkSpells
import Derived.WalkLawsBesides
import Derived.Deep.QuietTactic
import Derived.BigQuiet
namespace Go.Proofs.YthbhllomikfbhaaDoor.Poly
open Go.RowKit

theorem bcell {B : Nat} {W w1 : World} (hb : Below B W w1) {b o : Nat} {v : Option Value} (h : b < B) (hc : W.cell? ⟨b, o, none⟩ = v) : w1.cell? ⟨b, o, none⟩ = v := by
  rw [← hc]; exact hb.cell (p := ⟨b, o, none⟩) h

theorem below_drewN {B : Nat} {w w1 : World} (h : Below B w w1) : ∀ n, Below B w (w1.drewN n) := fun n => by
  induction n with
  | zero => exact h
  | succ n ih => exact ih.drew

theorem ret_bool {a b : Bool} (h : b = a) : Ending.returned (.bool a) = .returned (.bool b) := by rw [h]

/-- The cells of the terms l, from address ⟨b, off⟩ on. -/
def TermsAt (w : World) (b off : Nat) (l : List (Int × Int)) : Prop :=
  ∀ i, i < l.length → w.cell? ⟨b, off + i * 2, none⟩ = some (.int .i64 (l.getD i (0, 0)).1) ∧ w.cell? ⟨b, off + i * 2 + 1, none⟩ = some (.int .i64 (l.getD i (0, 0)).2)

theorem TermsAt.on {B : Nat} {W w1 : World} {b off : Nat} {l : List (Int × Int)} (h : TermsAt W b off l) (hb : Below B W w1) (hlt : b < B) : TermsAt w1 b off l :=
  fun i hi => ⟨bcell hb hlt (h i hi).1, bcell hb hlt (h i hi).2⟩

set_option maxHeartbeats 1000000 in
theorem polyMay_any (b off cap : Nat) (l : List (Int × Int)) (w : World) (hl : l.length ≤ maxLen) (hbw : b < w.heap.size) (hT : TermsAt w b off l) :
    Calls Tryd.prog 10 #[.slice (some ⟨b, off, none⟩) l.length cap] w fun e w' => e = .returned (.bool (mayB l)) ∧ Below w.heap.size w w' := by
  unfold maxLen at hl
  by_cases h64 : 64 < l.length
  · go_enter Tryd.func10, Tryd.ntmps10
    go_wp2
    go_ret
    exact ⟨ret_bool (may_long l h64), Below.refl _ _⟩
  go_enter Tryd.func10, Tryd.ntmps10
  go_wp2
  go_loopw [3, 2, 4] (fun i r _ wr => ∃ k : Nat, k ≤ l.length ∧ i = .int .i64 k ∧ r = .bool false ∧ Below w.heap.size w wr ∧ Hid (∀ i, i < k → okB l i = true)) (fun i _ _ _ => l.length - (intOf i).toNat)
  case atStart => exact ⟨0, Nat.zero_le _, rfl, rfl, Below.refl _ _, fun i hi => absurd hi (Nat.not_lt_zero _)⟩
  case round =>
    obtain ⟨k, hk, rfl, rfl, hb, hall⟩ := hrel
    by_cases hlt : k < l.length
    · have c0 := bcell hb hbw (hT k hlt).1
      have c1 := bcell hb hbw (hT k hlt).2
      generalize he : (l.getD k (0, 0)).1 = e at c0
      generalize hc : (l.getD k (0, 0)).2 = c at c1
      have HE : Hid ((l.getD k (0, 0)).1 = e) := he
      have HC : Hid ((l.getD k (0, 0)).2 = c) := hc
      clear he hc
      have hbr : b < wr.heap.size := Nat.lt_of_lt_of_le hbw hb.size
      have hsz := hb.size
      by_cases t1 : e < -1000
      · have d1 : decide (e < -1000) = true := by simpa using t1
        go_wp2
        go_quiet (fail)
        go_wp2
        go_ret
        exact ⟨ret_bool (may_no l k hlt (okB_no1 HE.out t1)), below_drewN (hb.alloc hsz _) _⟩
      have d1 : decide (e < -1000) = false := by simpa using t1
      by_cases t2 : 1000 < e
      · have d2 : decide (1000 < e) = true := by simpa using t2
        go_wp2
        go_quiet (fail)
        go_wp2
        go_ret
        exact ⟨ret_bool (may_no l k hlt (okB_no2 HE.out t2)), below_drewN (hb.alloc hsz _) _⟩
      have d2 : decide (1000 < e) = false := by simpa using t2
      by_cases t3 : c < -1000000
      · have d3 : decide (c < -1000000) = true := by simpa using t3
        go_wp2
        go_quiet (fail)
        go_wp2
        go_ret
        exact ⟨ret_bool (may_no l k hlt (okB_no3 HC.out t3)), below_drewN (hb.alloc hsz _) _⟩
      have d3 : decide (c < -1000000) = false := by simpa using t3
      by_cases t4 : 1000000 < c
      · have d4 : decide (1000000 < c) = true := by simpa using t4
        go_wp2
        go_quiet (fail)
        go_wp2
        go_ret
        exact ⟨ret_bool (may_no l k hlt (okB_no4 HC.out t4)), below_drewN (hb.alloc hsz _) _⟩
      have d4 : decide (1000000 < c) = false := by simpa using t4
      by_cases t5 : c = 0
      · have T5 : Hid (c = 0) := t5
        have d5 : (c == 0) = true := by simpa using t5
        clear t5
        go_wp2
        go_quiet (fail)
        go_wp2
        go_ret
        exact ⟨ret_bool (may_no l k hlt (okB_no5 HC.out T5.out)), below_drewN (hb.alloc hsz _) _⟩
      have d5 : (c == 0) = false := by simpa using t5
      by_cases hk0 : 0 < k
      · have d6 : decide (0 < (k : Int)) = true := by simpa using hk0
        obtain ⟨k', rfl⟩ : ∃ k', k = k' + 1 := ⟨k - 1, by omega⟩
        have cp := bcell hb hbw (hT k' (by omega)).1
        generalize hp : (l.getD k' (0, 0)).1 = p at cp
        have HP : Hid ((l.getD k' (0, 0)).1 = p) := hp
        clear hp
        by_cases t6 : e ≤ p
        · have d7 : decide (e ≤ p) = true := by simpa using t6
          go_wp2
          go_quiet (fail)
          go_wp2
          go_ret
          exact ⟨ret_bool (may_no l (k' + 1) hlt (okB_no6 HE.out HP.out (by omega) t6)), below_drewN (hb.alloc hsz _) _⟩
        · have d7 : decide (e ≤ p) = false := by simpa using t6
          go_wp2
          go_quiet (fail)
          go_wp2
          go_roundw
          case rel => exact ⟨k' + 1 + 1, by omega, by go_num, rfl, below_drewN (hb.alloc hsz _) _, fun i hi => by
            by_cases hik : i = k' + 1
            · subst hik; exact okB_yes HE.out HC.out (by omega) (by omega) (by omega) (by omega) t5 (fun _ => by have := HP.out; simp only [Nat.add_sub_cancel]; omega)
            · exact hall.out i (by omega)⟩
          case measure => simp [intOf]; omega
      · obtain rfl : k = 0 := by omega
        simp only [Nat.zero_mul, Nat.add_zero] at c0 c1
        have d6 : decide (0 < (0 : Int)) = false := by simp
        go_wp2
        go_quiet (fail)
        go_wp2
        go_roundw
        case rel => exact ⟨0 + 1, by omega, by go_num, rfl, below_drewN (hb.alloc hsz _) _, fun i hi => by
          obtain rfl : i = 0 := by omega
          exact okB_yes HE.out HC.out (by omega) (by omega) (by omega) (by omega) t5 (fun h => by omega)⟩
        case measure => simp [intOf]; omega
    · go_wp2
      go_ret
      obtain rfl : k = l.length := by omega
      exact ⟨ret_bool (may_yes l (by omega) hall.out), hb⟩
end Go.Proofs.YthbhllomikfbhaaDoor.Poly
