/- The walk of knotworkref.Dec: it tells the decimal numeral of every number of at most a million in size. -/
import Derived.Test.YthbhllomikfbhaaDoorW5d
import Derived.Lib.ItoaNum
import Derived.Lib.ItoaLen
import Derived.Lib.ItoaMem
import Derived.Laws.IdiomStrings
import Derived.Deep.RegionWith
namespace Go.Proofs.YthbhllomikfbhaaDoor
open Go.RowKit

/-- The digit of a number below 10. -/
def digB (n : Int) : UInt8 := UInt8.ofNat (48 + n.toNat)

theorem digit_back (n : Int) (h0 : 0 ≤ n) (h : n < 10) (W : World) (g : Nat) (hc : W.cell? ⟨g, 0, none⟩ = some (.int .u8 (48 + n))) :
    (convert 67 9 (.slice (some ⟨g, 0, none⟩) 1 1)).run Tryd.prog W = .ok (.string ⟨#[digB n]⟩) W := by
  refine run_convert_bytes_back (P := Tryd.prog) W 67 9 5 ⟨g, 0, none⟩ 1 [digB n] Tryd.underlying67 Tryd.underlying5 Tryd.underlying9 ?_
  intro j hj
  obtain rfl : j = 0 := by simpa using hj
  rw [Addr.add_lit]
  simp only [List.getElem_cons_zero]
  rw [hc]
  have : (digB n).toNat = 48 + n.toNat := by
    unfold digB; simp; omega
  rw [this]
  congr 2
  omega

theorem ret_str {a b : List UInt8} (h : a = b) : Ending.returned (.string ⟨a.toArray⟩) = .returned (.string ⟨b.toArray⟩) := by rw [h]

theorem dec_len (n : Int) (h0 : 0 ≤ n) (h : n ≤ 1000000) : (Lib.decDigits n.toNat).length ≤ 21 := by
  have := Lib.itoa_length_le n (by omega) (by omega)
  obtain ⟨m, rfl⟩ := Int.eq_ofNat_of_zero_le h0
  rwa [Lib.itoa_nonneg] at this

theorem dec_one (n : Int) (h0 : 0 ≤ n) (h : n < 10) : Lib.decDigits n.toNat = [digB n] := Lib.decDigits_one (by omega)

set_option maxHeartbeats 400000 in
set_option maxRecDepth 100000 in
theorem dec_small (n : Int) (w : World) (h0 : 0 ≤ n) (h : n < 10) :
    Calls Tryd.prog 25 #[.int .i64 n] w fun e w' => e = .returned (.string ⟨(Lib.decDigits n.toNat).toArray⟩) ∧ Below w.heap.size w w' := by
  have hcv := digit_back n h0 h
  go_enter Tryd.func25, Tryd.ntmps25
  go_wp2
  go_ret
  exact ⟨by rw [dec_one n h0 h]; rfl, (Below.refl _ _).alloc (Nat.le_refl _) _⟩

theorem dec_more (n : Int) (h : 10 ≤ n) : Lib.decDigits n.toNat = Lib.decDigits (n / 10).toNat ++ [digB (n % 10)] := by
  rw [Lib.decDigits, dif_neg (by omega)]
  unfold digB
  rw [show n.toNat / 10 = (n / 10).toNat by omega, show n.toNat % 10 = (n % 10).toNat by omega]

set_option maxHeartbeats 400000 in
set_option maxRecDepth 100000 in
theorem dec_big (n : Int) (w : World) (h : 10 ≤ n) (hn : n ≤ 1000000) (ih : ∀ m : Int, 0 ≤ m → m < n → ∀ w, Calls Tryd.prog 25 #[.int .i64 m] w fun e w' => e = .returned (.string ⟨(Lib.decDigits m.toNat).toArray⟩) ∧ Below w.heap.size w w') :
    Calls Tryd.prog 25 #[.int .i64 n] w fun e w' => e = .returned (.string ⟨(Lib.decDigits n.toNat).toArray⟩) ∧ Below w.heap.size w w' := by
  have hcv := digit_back (n % 10) (by omega) (by omega)
  have e1 : IntKind.i64.wrap (n.tdiv 10) = n / 10 := by
    rw [Int.tdiv_eq_ediv_of_nonneg (by omega)]
    exact IntWalk.i64_in _ (by omega)
  have e2 : n.tmod 10 = n % 10 := Int.tmod_eq_emod_of_nonneg (by omega)
  have e3 : IntKind.i64.wrap (48 + n % 10) = 48 + n % 10 := IntWalk.i64_in _ (by omega)
  have e4 : IntKind.u8.wrap (48 + n % 10) = 48 + n % 10 := by
    simp [IntKind.wrap, IntKind.signed, IntKind.bits]; omega
  have hlen := dec_len (n / 10) (by omega) (by omega)
  have hadd := fun W => run_string_add_lists (P := Tryd.prog) (w := W) (Lib.decDigits (n / 10).toNat) [digB (n % 10)] (by omega) (by simp)
  have H : Hid _ := ih
  clear ih
  go_enter Tryd.func25, Tryd.ntmps25
  go_wp2
  go_region_with (go_at_call 25; refine (H.out _ (by omega) (by omega) _).mono ?_; rintro e w1 ⟨rfl, hb1⟩; have hc1 := fun (b o : Nat) (h : b < _) => hb1.cell (p := ⟨b, o, none⟩) h)
  all_goals go_wp2
  all_goals go_ret
  all_goals refine ⟨by rw [dec_more n h]; rfl, ?_⟩
  · exact (((Below.refl _ w).drew).trans (hb1.mono (Nat.le_refl _))).alloc (by have := hb1.size; exact this) _
  all_goals exact (((Below.refl _ w).alloc (Nat.le_refl _) _).drew).trans (hb1.mono (by simp))

theorem dec_nat (n : Int) (w : World) (h0 : 0 ≤ n) (hn : n ≤ 1000000) :
    Calls Tryd.prog 25 #[.int .i64 n] w fun e w' => e = .returned (.string ⟨(Lib.decDigits n.toNat).toArray⟩) ∧ Below w.heap.size w w' := by
  obtain ⟨k, hk⟩ : ∃ k : Nat, n.toNat ≤ k := ⟨_, Nat.le_refl _⟩
  induction k generalizing n w with
  | zero => exact dec_small n w h0 (by omega)
  | succ k ih =>
    by_cases h : n < 10
    · exact dec_small n w h0 h
    · exact dec_big n w (by omega) hn fun m h1 h2 w => ih m w h1 (by omega) (by omega)

set_option maxHeartbeats 400000 in
set_option maxRecDepth 100000 in
theorem dec_neg (n : Int) (w : World) (h0 : n < 0) (hn : -1000000 ≤ n) :
    Calls Tryd.prog 25 #[.int .i64 n] w fun e w' => e = .returned (.string ⟨(Lib.itoa n).toArray⟩) ∧ Below w.heap.size w w' := by
  have hlen := dec_len (-n) (by omega) (by omega)
  have hadd := fun W => run_string_add_lists (P := Tryd.prog) (w := W) [45] (Lib.decDigits (-n).toNat) (by simp) (by omega)
  have hi : Lib.itoa n = [45] ++ Lib.decDigits (-n).toNat := by
    unfold Lib.itoa
    rw [if_pos h0, show n.natAbs = (-n).toNat by omega]
    rfl
  rw [hi]
  clear hi
  go_enter Tryd.func25, Tryd.ntmps25
  go_wp2_with (go_at_call 25; refine (dec_nat _ _ (by omega) (by omega)).mono ?_; rintro e w1 ⟨rfl, hb1⟩)
  go_ret
  exact ⟨rfl, hb1⟩

/-- Dec tells what strconv.Itoa tells. -/
theorem dec_any (n : Int) (w : World) (h0 : -1000000 ≤ n) (h1 : n ≤ 1000000) :
    Calls Tryd.prog 25 #[.int .i64 n] w fun e w' => e = .returned (.string ⟨(Lib.itoa n).toArray⟩) ∧ Below w.heap.size w w' := by
  by_cases h : n < 0
  · exact dec_neg n w h h0
  · have : Lib.itoa n = Lib.decDigits n.toNat := by unfold Lib.itoa; rw [if_neg h]
    rw [this]
    exact dec_nat n w (by omega) h1
end Go.Proofs.YthbhllomikfbhaaDoor
