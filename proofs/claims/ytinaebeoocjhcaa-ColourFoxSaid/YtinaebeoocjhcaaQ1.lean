/- The walks of colour.prime, ref.Prime, colour.inverse and ref.mostOf. -/
import Derived.Test.YtinaebeoocjhcaaQ0
import Derived.Test.YtinaebeoocjhcaaO3
import Derived.Test.YtinaebeoocjhcaaIn
namespace Go.Proofs.Ytinaebeoocjhcaa
open Go.RowKit

theorem primeN_no {p f : Nat} (h1 : 2 ≤ f) (h2 : f < p) (h : p % f = 0) : primeN p = false := by
  cases e : primeN p with
  | false => rfl
  | true =>
    have := List.all_eq_true.1 (Bool.and_eq_true_iff.1 e).2 f (List.mem_range.2 h2)
    simp [h] at this
    omega
theorem primeN_yes {p : Nat} (hp : 2 ≤ p) (h : ∀ k, 2 ≤ k → k < p → p % k ≠ 0) : primeN p = true := by
  unfold primeN
  simp only [Bool.and_eq_true, decide_eq_true_eq, List.all_eq_true, List.mem_range, Bool.or_eq_true]
  refine ⟨hp, fun k hk => ?_⟩
  by_cases h2 : k < 2
  · exact Or.inl h2
  · exact Or.inr (h k (by omega) hk)
theorem sq_all : ((List.range 98).all fun p => (List.range 12).all fun f => decide (f * f ≤ p) || (List.range f).any (fun k => decide (2 ≤ k) && decide (p % k = 0)) || (primeN p == decide (2 ≤ p))) = true := by decide +kernel
theorem sq_prime {p f : Nat} (hp : p < 98) (hf : f < 12) (hq : p < f * f) (h : ∀ k, 2 ≤ k → k < f → p % k ≠ 0) : primeN p = decide (2 ≤ p) := by
  have h1 := List.all_eq_true.1 (List.all_eq_true.1 sq_all p (List.mem_range.2 hp)) f (List.mem_range.2 hf)
  rcases Bool.or_eq_true_iff.1 h1 with h2 | h2
  · rcases Bool.or_eq_true_iff.1 h2 with h3 | h3
    · have : f * f ≤ p := by simpa using h3
      omega
    · obtain ⟨k, hk, e⟩ := List.any_eq_true.1 h3
      have e1 := Bool.and_eq_true_iff.1 e
      exact absurd (by simpa using e1.2) (h k (by simpa using e1.1) (List.mem_range.1 hk))
  · simpa using h2

set_option maxHeartbeats 4000000 in
set_option maxRecDepth 100000 in
theorem prime_any (p : Int) (w : World) (hp : p ≤ 97) (hlo : -9223372036854775808 ≤ p) :
    Calls Try.prog 95 #[.int .i64 p] w fun e w' => e = .returned (.bool (primeN p.toNat)) ∧ Below w.heap.size w w' := by
  have HB : Hid (Below w.heap.size w w) := Below.refl _ _
  go_enter Try.func95, Try.ntmps95
  go_wp2
  go_loopw [3] (fun v3 wr => ∃ f : Nat, 2 ≤ f ∧ f ≤ 10 ∧ v3 = .int .i64 (f : Nat) ∧ Hid (∀ k, 2 ≤ k → k < f → p.toNat % k ≠ 0) ∧ Hid (Below w.heap.size w wr)) (fun v3 _ => 11 - (intOf v3).toNat)
  case atStart => exact ⟨2, by omega, by omega, rfl, (fun k h1 h2 => by omega), HB.out⟩
  case round =>
    clear HB
    rename World => W1
    obtain ⟨f, hf1, hf2, rfl, hno, hb⟩ := hrel
    obtain ⟨s, hs⟩ : ∃ s : Nat, f * f = s := ⟨_, rfl⟩
    have HS : Hid (f * f = s) := hs
    have hs1 : s ≤ 100 := by rw [← hs]; exact Nat.mul_le_mul hf2 hf2
    have hs3 : 2 * f ≤ s := by rw [← hs]; exact Nat.mul_le_mul_right f hf1
    have hs2 : (f : Int) * (f : Int) = (s : Int) := by rw [← hs]; push_cast; rfl
    have ew : IntKind.i64.wrap ((f : Int) * (f : Int)) = (s : Int) := by rw [hs2]; exact IntWalk.i64_in _ (by omega)
    have ew2 : IntKind.i64.wrap (s : Int) = (s : Int) := IntWalk.i64_in _ (by omega)
    clear hs
    by_cases hle : (s : Int) ≤ p
    · obtain ⟨q, rfl⟩ : ∃ q : Nat, p = (q : Int) := ⟨p.toNat, by omega⟩
      have hq : (q : Int).toNat = q := Int.toNat_natCast q
      rw [hq] at hno
      have er : (q : Int).tmod (f : Int) = ((q % f : Nat) : Int) := rfl
      have hf0 : ((f : Int) == 0) = false := by simp; omega
      have hfn : (f : Int) ≠ 0 := by omega
      have hlt : q % f < f := Nat.mod_lt _ (by omega)
      obtain ⟨r, hr⟩ : ∃ r, q % f = r := ⟨_, rfl⟩
      have HR : Hid (q % f = r) := hr
      rw [hr] at er hlt
      clear hr
      by_cases hr0 : r = 0
      · subst hr0
        have HP : Hid (primeN (q : Int).toNat = false) := (by rw [hq]; exact primeN_no hf1 (by omega) HR.out : primeN (q : Int).toNat = false)
        clear hq
        go_wp2
        go_ret
        exact ⟨by rw [HP.out]; rfl, hb.out⟩
      · have hrz : ((r : Int) == 0) = false := by simp; omega
        have hf9 : f ≤ 9 := by
          rcases Nat.lt_or_ge f 10 with h | h
          · omega
          · obtain rfl : f = 10 := by omega
            have := HS.out
            omega
        clear hq
        go_wp2
        go_roundw
        case rel => exact ⟨f + 1, by omega, by omega, by go_num, (fun k h1 h2 => by
          have h3 : (q : Int).toNat = q := Int.toNat_natCast q
          rw [h3]
          by_cases e : k = f
          · rw [e, HR.out]; exact hr0
          · exact hno.out k h1 (by omega) : ∀ k, 2 ≤ k → k < f + 1 → (q : Int).toNat % k ≠ 0), hb.out⟩
        case measure => simp only [intOf]; omega
    · have HP : Hid (primeN p.toNat = decide (2 ≤ p.toNat)) := sq_prime (by omega) (by omega) (by rw [HS.out]; omega) hno.out
      have HE : Hid (decide (2 ≤ p) = decide (2 ≤ p.toNat)) := (by
        by_cases h2 : 2 ≤ p
        · rw [decide_eq_true h2, decide_eq_true (by omega)]
        · rw [decide_eq_false h2, decide_eq_false (by omega)] : decide (2 ≤ p) = decide (2 ≤ p.toNat))
      go_wp2
      go_ret
      exact ⟨ret_bool (by rw [HP.out, ← HE.out]), hb.out⟩

set_option maxHeartbeats 4000000 in
set_option maxRecDepth 100000 in
theorem primeR_any (q : Nat) (w : World) (h2 : 2 ≤ q) (hq : q ≤ 97) :
    Calls Try.prog 48 #[.int .i64 (q : Nat)] w fun e w' => e = .returned (.bool (primeN q)) ∧ Below w.heap.size w w' := by
  have HB : Hid (Below w.heap.size w w) := Below.refl _ _
  go_enter Try.func48, Try.ntmps48
  go_wp2
  go_loopw [3] (fun v3 wr => ∃ f : Nat, 2 ≤ f ∧ f ≤ q ∧ v3 = .int .i64 (f : Nat) ∧ Hid (∀ k, 2 ≤ k → k < f → q % k ≠ 0) ∧ Hid (Below w.heap.size w wr)) (fun v3 _ => q - (intOf v3).toNat)
  case atStart => exact ⟨2, by omega, by omega, rfl, (fun k h1 h2 => by omega), HB.out⟩
  case round =>
    clear HB
    rename World => W1
    obtain ⟨f, hf1, hf2, rfl, hno, hb⟩ := hrel
    by_cases hle : f < q
    · have er : (q : Int).tmod (f : Int) = ((q % f : Nat) : Int) := rfl
      have hf0 : ((f : Int) == 0) = false := by simp; omega
      have hfn : (f : Int) ≠ 0 := by omega
      have hlt : q % f < f := Nat.mod_lt _ (by omega)
      obtain ⟨r, hr⟩ : ∃ r, q % f = r := ⟨_, rfl⟩
      have HR : Hid (q % f = r) := hr
      rw [hr] at er hlt
      clear hr
      by_cases hr0 : r = 0
      · subst hr0
        have HP : Hid (primeN q = false) := primeN_no hf1 hle HR.out
        go_wp2
        go_ret
        exact ⟨by rw [HP.out]; rfl, hb.out⟩
      · have hrz : ((r : Int) == 0) = false := by simp; omega
        go_wp2
        go_roundw
        case rel => exact ⟨f + 1, by omega, by omega, by go_num, (fun k h1 h2 => by
          by_cases e : k = f
          · rw [e, HR.out]; exact hr0
          · exact hno.out k h1 (by omega) : ∀ k, 2 ≤ k → k < f + 1 → q % k ≠ 0), hb.out⟩
        case measure => simp only [intOf]; omega
    · obtain rfl : f = q := by omega
      have HP : Hid (primeN f = true) := primeN_yes h2 hno.out
      go_wp2
      go_ret
      exact ⟨ret_bool (by rw [HP.out]; simp; omega), hb.out⟩

set_option maxHeartbeats 4000000 in
set_option maxRecDepth 100000 in
theorem inverse_any (a p : Nat) (w : World) (hp : p < 98) (hpr : primeN p = true) (ha : a < p) (h0 : a ≠ 0) :
    Calls Try.prog 156 #[.int .i64 (a : Nat), .int .i64 (p : Nat)] w fun e w' => ∃ b : Nat, e = .returned (.int .i64 (b : Nat)) ∧ b < p ∧ a * b % p = 1 ∧ Below w.heap.size w w' := by
  have HB : Hid (Below w.heap.size w w) := Below.refl _ _
  have HEX : Hid (∃ b, b < p ∧ a * b % p = 1) := inv_ex hp hpr ha h0
  go_enter Try.func156, Try.ntmps156
  go_wp2
  go_loopw [7] (fun v7 wr => ∃ b : Nat, b ≤ p ∧ v7 = .int .i64 (b : Nat) ∧ Hid (∀ k, k < b → a * k % p ≠ 1) ∧ Hid (Below w.heap.size w wr)) (fun v7 _ => p - (intOf v7).toNat)
  case atStart => exact ⟨0, by omega, rfl, (fun k h1 => by omega), HB.out⟩
  case round =>
    clear HB
    rename World => W1
    obtain ⟨b, hb1, rfl, hno, hb⟩ := hrel
    by_cases hle : b < p
    · obtain ⟨s, hs⟩ : ∃ s : Nat, a * b = s := ⟨_, rfl⟩
      have HS : Hid (a * b = s) := hs
      have hs1 : s ≤ 97 * 97 := by rw [← hs]; exact Nat.mul_le_mul (by omega) (by omega)
      have hs2 : (a : Int) * (b : Int) = (s : Int) := by rw [← hs]; push_cast; rfl
      have ew : IntKind.i64.wrap ((a : Int) * (b : Int)) = (s : Int) := by rw [hs2]; exact IntWalk.i64_in _ (by omega)
      have ew2 : IntKind.i64.wrap (s : Int) = (s : Int) := IntWalk.i64_in _ (by omega)
      have er : (s : Int).tmod (p : Int) = ((s % p : Nat) : Int) := rfl
      have hf0 : ((p : Int) == 0) = false := by simp; omega
      have hfn : (p : Int) ≠ 0 := by omega
      have hlt : s % p < p := Nat.mod_lt _ (by omega)
      obtain ⟨r, hr⟩ : ∃ r, s % p = r := ⟨_, rfl⟩
      have HR : Hid (s % p = r) := hr
      rw [hr] at er hlt
      clear hr hs hpr
      by_cases hr0 : r = 1
      · subst hr0
        go_wp2
        go_ret
        exact ⟨b, rfl, hle, (by rw [HS.out]; exact HR.out), hb.out⟩
      · have hrz : ((r : Int) == 1) = false := by simp; omega
        have hrz2 : (r == 1) = false := by simp; omega
        go_wp2
        go_roundw
        case rel => exact ⟨b + 1, by omega, by go_num, (fun k h1 => by
          by_cases e : k = b
          · rw [e, HS.out, HR.out]; exact hr0
          · exact hno.out k (by omega) : ∀ k, k < b + 1 → a * k % p ≠ 1), hb.out⟩
        case measure => simp only [intOf]; omega
    · obtain ⟨c, hc1, hc2⟩ := HEX.out
      exact absurd hc2 (hno.out c (by omega))

/-- One more than the greatest of the first k. -/
def mostTo (l : List Nat) : Nat → Nat
  | 0 => 0
  | k + 1 => max (mostTo l k) (l.getD k 0 + 1)
theorem mostTo_le (l : List Nat) (B k : Nat) (hk : k ≤ l.length) (h : ∀ x, x ∈ l → x < B) : mostTo l k ≤ B := by
  induction k with
  | zero => exact Nat.zero_le _
  | succ k ih =>
    have := ih (by omega)
    have h2 := h (l.getD k 0) (by rw [List.getD_eq_getElem?_getD, List.getElem?_eq_getElem (by omega)]; exact List.getElem_mem _)
    simp only [mostTo]
    omega
theorem mostTo_ov {C : List Cr} (hL : Least (ovE C) (2 * C.length + 1) (lowM C)) (hpos : ∀ v, 1 ≤ v → v < 2 * C.length + 1 → 1 ≤ (lowM C).getD v 0) (k : Nat) (hk : k ≤ 2 * C.length) : mostTo (ovL C (2 * C.length)) k = rootsN (lowM C) (k + 1) := by
  induction k with
  | zero => simp [mostTo, rootsN]
  | succ k ih =>
    have h1 := ih (by omega)
    have e : (ovL C (2 * C.length)).getD k 0 = ovM C (k + 1) := by simp [ovL, List.getD_eq_getElem?_getD, show k < 2 * C.length by omega]
    have hv : k + 1 < 2 * C.length + 1 := by omega
    simp only [mostTo]
    rw [h1, e]
    show max (rootsN (lowM C) (k + 1)) (ovM C (k + 1) + 1) = rootsN (lowM C) (k + 1) + (if 1 ≤ k + 1 ∧ (lowM C).getD (k + 1) 0 = k + 1 then 1 else 0)
    by_cases hr : (lowM C).getD (k + 1) 0 = k + 1
    · rw [if_pos ⟨by omega, hr⟩]
      unfold ovM
      rw [hr]
      omega
    · rw [if_neg (fun z => hr z.2)]
      have hle := hL.le hv
      have hp := hpos (k + 1) (by omega) hv
      have hroot := hL.root hv
      have h3 : rootsN (lowM C) ((lowM C).getD (k + 1) 0 + 1) = ovM C (k + 1) + 1 := by
        show rootsN (lowM C) _ + _ = _
        rw [if_pos ⟨hp, hroot⟩]
        rfl
      have h4 := rootsN_mono (lowM C) ((lowM C).getD (k + 1) 0 + 1) (k + 1) (by omega)
      omega

set_option maxHeartbeats 4000000 in
set_option maxRecDepth 100000 in
theorem mostOf_any (v : Value) (l : List Nat) (B : Nat) (w : World) (hB : B ≤ 100) (hl : l.length ≤ 100) (hx : ∀ x, x ∈ l → x < B) (h : Slots w w.heap.size v (nats l)) :
    Calls Try.prog 98 #[v] w fun e w' => e = .returned (.int .i64 (mostTo l l.length : Nat)) ∧ Below w.heap.size w w' := by
  obtain ⟨a, c, rfl, g⟩ := h
  rw [nats_len] at g ⊢
  have HB : Hid (Below w.heap.size w w) := Below.refl _ _
  have HX : Hid (∀ x, x ∈ l → x < B) := hx
  by_cases h0 : 0 < l.length
  · obtain ⟨b, off, rfl, hbw, hc⟩ := g h0
    have HC : Hid (∀ i, i < l.length → w.cell? ⟨b, off + i, none⟩ = some ((nats l).getD i (.bool false))) := hc
    clear g hx hc
    go_enter Try.func98, Try.ntmps98
    go_wp2
    go_loopw [3, 4] (fun v3 v4 wr => ∃ i : Nat, i ≤ l.length ∧ v4 = .int .i64 (i : Nat) ∧ v3 = .int .i64 (mostTo l i : Nat) ∧ Hid (Below w.heap.size w wr)) (fun _ v4 _ => l.length - (intOf v4).toNat)
    case atStart => exact ⟨0, Nat.zero_le _, rfl, rfl, HB.out⟩
    case round =>
      clear HB
      rename World => W1
      obtain ⟨i, hi1, rfl, rfl, hb⟩ := hrel
      have hm1 := mostTo_le l B i hi1 HX.out
      by_cases hil : i < l.length
      · have hs := hb.out.size
        have hbW : b < W1.heap.size := by omega
        obtain ⟨x, hx⟩ : ∃ x, l.getD i 0 = x := ⟨_, rfl⟩
        have hxB : x < B := by rw [← hx]; exact HX.out _ (by rw [List.getD_eq_getElem?_getD, List.getElem?_eq_getElem (by omega)]; exact List.getElem_mem _)
        have e0 : W1.cell? ⟨b, off + i, none⟩ = some (.int .i64 (x : Nat)) := by
          refine bcell hb.out hbw ?_
          rw [HC.out i hil, List.getD_eq_getElem?_getD, nats_get l i hil, hx]; rfl
        have HMX : Hid (mostTo l (i + 1) = max (mostTo l i) (x + 1)) := (by show max _ _ = _; rw [hx] : mostTo l (i + 1) = max (mostTo l i) (x + 1))
        obtain ⟨y, hy⟩ : ∃ y, mostTo l i = y := ⟨_, rfl⟩
        rw [hy] at HMX hm1 ⊢
        clear hx hy
        by_cases hxy : y < x + 1
        · have HM2 : Hid (mostTo l (i + 1) = x + 1) := (by rw [HMX.out]; omega : mostTo l (i + 1) = x + 1)
          go_wp2
          go_roundw
          case rel => exact ⟨i + 1, by omega, by go_num, by rw [HM2.out]; go_num, hb.out⟩
          case measure => simp only [intOf]; omega
        · have HM2 : Hid (mostTo l (i + 1) = y) := (by rw [HMX.out]; omega : mostTo l (i + 1) = y)
          go_wp2
          go_roundw
          case rel => exact ⟨i + 1, by omega, by go_num, by rw [HM2.out], hb.out⟩
          case measure => simp only [intOf]; omega
      · obtain rfl : i = l.length := by omega
        go_wp2
        go_ret
        exact ⟨rfl, hb.out⟩
  · have hl0 : l.length = 0 := by omega
    have HM0 : Hid (mostTo l l.length = 0) := (by rw [hl0]; rfl : mostTo l l.length = 0)
    rw [HM0.out, hl0]
    clear g hx
    go_enter Try.func98, Try.ntmps98
    go_wp2
    go_loopw [3, 4] (fun v3 v4 wr => v4 = .int .i64 0 ∧ v3 = .int .i64 0 ∧ Hid (Below w.heap.size w wr)) (fun _ v4 _ => 0)
    case atStart => exact ⟨rfl, rfl, HB.out⟩
    case round =>
      clear HB
      rename World => W1
      obtain ⟨rfl, rfl, hb⟩ := hrel
      go_wp2
      go_ret
      exact ⟨rfl, hb.out⟩
end Go.Proofs.Ytinaebeoocjhcaa
