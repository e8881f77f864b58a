/- The walks of the small functions of poly.Text: Itoa taken by its contract, lead, size, abs, power, body. -/
import Derived.Test.YthbhllomikfbhaaDoorDT6
import Derived.Test.YthbhllomikfbhaaDoorXText
import Derived.Lib.AppendIntMem
namespace Go.Proofs.YthbhllomikfbhaaDoor.Poly
open Go.RowKit

/-- The table of powers of ten lies where the library reads it. -/
def Tab (w : World) : Prop := Lib.TabIs Tryd.prog w "internal/strconv.uint64pow10" .u64 Lib.pow10Tab
theorem Tab.on {w w' : World} (h : Tab w) (hb : Below w.heap.size w w') : Tab w' := Lib.tabBelow_of_tabIs h w' hb
theorem Tab.drew {w : World} (h : Tab w) : Tab w.drew := h.on (Below.refl _ _).drew
theorem Tab.alloc {w : World} (h : Tab w) (o : Obj) : Tab (w.alloc o) := h.on ((Below.refl _ _).alloc (Nat.le_refl _) _)

theorem below_grow (w : World) (k : Nat) (os : Array Obj) : Below w.heap.size w (Sort.grow (w.drewN k) os) := by
  have h := below_drewN (Below.refl w.heap.size w) k
  refine h.trans ⟨rfl, rfl, rfl, by simp [Sort.grow], fun i hi => ?_⟩
  have : i < (w.drewN k).heap.size := Nat.lt_of_lt_of_le hi h.size
  simp only [Sort.grow]
  rw [Array.getElem?_append_left this]

theorem itoa_any (n : Int) (w : World) (h0 : -1000000 ≤ n) (h1 : n ≤ 1000000) (hT : Tab w) :
    Calls Tryd.prog 57 #[.int .i64 n] w fun e w' => e = .returned (.string ⟨(Lib.itoa n).toArray⟩) ∧ Below w.heap.size w w' := by
  refine (Tryd.strconv_Itoa n (by omega) (by omega) w hT).mono ?_
  rintro e w' ⟨rfl, k, os, rfl⟩
  exact ⟨rfl, below_grow _ _ _⟩

set_option maxHeartbeats 400000 in
theorem lead_any (f b : Bool) (w : World) :
    Calls Tryd.prog 41 #[.bool f, .bool b] w fun e w' => e = .returned (.string ⟨(leadL f b).toArray⟩) ∧ w' = w := by
  cases f <;> cases b
  all_goals
    go_enter Tryd.func41, Tryd.ntmps41
    go_wp2
    go_ret
    exact ⟨rfl, rfl⟩

set_option maxHeartbeats 400000 in
theorem size_any (n : Int) (w : World) (h0 : -1000000 ≤ n) (h1 : n ≤ 1000000) :
    Calls Tryd.prog 43 #[.int .i64 n] w fun e w' => e = .returned (.int .i64 (n.natAbs : Int)) ∧ w' = w := by
  by_cases h : n < 0
  · rw [show ((n.natAbs : Nat) : Int) = -n by omega]
    go_enter Tryd.func43, Tryd.ntmps43
    go_wp2
    go_ret
    exact ⟨rfl, rfl⟩
  · rw [show ((n.natAbs : Nat) : Int) = n by omega]
    go_enter Tryd.func43, Tryd.ntmps43
    go_wp2
    go_ret
    exact ⟨rfl, rfl⟩

set_option maxHeartbeats 400000 in
theorem abs_any (n : Int) (w : World) (h0 : -1000000 ≤ n) (h1 : n ≤ 1000000) :
    Calls Tryd.prog 26 #[.int .i64 n] w fun e w' => e = .returned (.int .i64 (n.natAbs : Int)) ∧ w' = w := by
  by_cases h : n < 0
  · rw [show ((n.natAbs : Nat) : Int) = -n by omega]
    go_enter Tryd.func26, Tryd.ntmps26
    go_wp2
    go_ret
    exact ⟨rfl, rfl⟩
  · rw [show ((n.natAbs : Nat) : Int) = n by omega]
    go_enter Tryd.func26, Tryd.ntmps26
    go_wp2
    go_ret
    exact ⟨rfl, rfl⟩

set_option maxHeartbeats 400000 in
set_option maxRecDepth 100000 in
theorem power_any (e : Int) (w : World) (h0 : -1000 ≤ e) (h1 : e ≤ 1000) (hT : Tab w) :
    Calls Tryd.prog 58 #[.int .i64 e] w fun r w' => r = .returned (.string ⟨(powerL e).toArray⟩) ∧ Below w.heap.size w w' := by
  have HT : Hid (Tab w) := hT
  clear hT
  by_cases h : e = 1
  · subst h
    go_enter Tryd.func58, Tryd.ntmps58
    go_wp2
    go_ret
    exact ⟨rfl, Below.refl _ _⟩
  · have hl := Lib.itoa_length_le e (by omega) (by omega)
    have hadd := fun W => run_string_add_lists (P := Tryd.prog) (w := W) [116, 94] (Lib.itoa e) (by simp) (by omega)
    have hp : powerL e = [116, 94] ++ Lib.itoa e := by unfold powerL; rw [if_neg h]
    rw [hp]
    have hb : (e == 1) = false := by simpa using h
    clear hp h
    go_enter Tryd.func58, Tryd.ntmps58
    go_wp2_with (go_at_call 57; refine (itoa_any _ _ (by omega) (by omega) HT.out).mono ?_; rintro r w1 ⟨rfl, hb1⟩)
    go_ret
    exact ⟨rfl, hb1⟩

set_option maxHeartbeats 400000 in
set_option maxRecDepth 100000 in
theorem body_any (c e : Int) (w : World) (h0 : -1000 ≤ e) (h1 : e ≤ 1000) (h2 : 0 ≤ c) (h3 : c ≤ 1000000) (hT : Tab w) :
    Calls Tryd.prog 42 #[.int .i64 c, .int .i64 e] w fun r w' => r = .returned (.string ⟨(bodyL c e).toArray⟩) ∧ Below w.heap.size w w' := by
  have HT : Hid (Tab w) := hT
  clear hT
  by_cases he : e = 0
  · subst he
    go_enter Tryd.func42, Tryd.ntmps42
    go_wp2_with (go_at_call 57; refine (itoa_any _ _ (by omega) (by omega) HT.out).mono ?_; rintro r w1 ⟨rfl, hb1⟩)
    go_ret
    exact ⟨rfl, hb1⟩
  have hb : (e == 0) = false := by simpa using he
  by_cases hc : c = 1
  · subst hc
    have hp : bodyL 1 e = powerL e := by unfold bodyL; rw [if_neg he, if_pos rfl]
    rw [hp]
    clear hp he
    go_enter Tryd.func42, Tryd.ntmps42
    go_wp2_with (go_at_call 58; refine (power_any _ _ (by omega) (by omega) HT.out).mono ?_; rintro r w1 ⟨rfl, hb1⟩)
    go_ret
    exact ⟨rfl, hb1⟩
  · have hb2 : (c == 1) = false := by simpa using hc
    have hp : bodyL c e = Lib.itoa c ++ [42] ++ powerL e := by unfold bodyL; rw [if_neg he, if_neg hc]
    rw [hp]
    have hl := Lib.itoa_length_le c (by omega) (by omega)
    have hl2 := power_len e h0 h1
    have hadd := fun W => run_string_add_lists (P := Tryd.prog) (w := W) (Lib.itoa c) [42] (by omega) (by simp)
    have hadd2 := fun W => run_string_add_lists (P := Tryd.prog) (w := W) (Lib.itoa c ++ [42]) (powerL e) (by simp; omega) (by omega)
    clear hp he hc
    go_enter Tryd.func42, Tryd.ntmps42
    go_wp2_with (first | (go_at_call 57; refine (itoa_any _ _ (by omega) (by omega) HT.out).mono ?_; rintro r w1 ⟨rfl, hb1⟩) | (go_at_call 58; refine (power_any _ _ (by omega) (by omega) (HT.out.on hb1)).mono ?_; rintro r w2 ⟨rfl, hb2⟩))
    go_ret
    exact ⟨ret_str (a := Lib.itoa c ++ 42 :: powerL e) (by simp), hb1.trans (hb2.mono hb1.size)⟩
end Go.Proofs.YthbhllomikfbhaaDoor.Poly
