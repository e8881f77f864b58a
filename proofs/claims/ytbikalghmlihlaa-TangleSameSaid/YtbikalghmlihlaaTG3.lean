/- Fractions that may be handed in: the walks of tangle.divisor, ref.divisorOf, tangle.proper and ref.LowestIs. -/
import Derived.Test.YtbikalghmlihlaaBase
namespace Go.Proofs.Ytbikalghmlihlaa
open Go.RowKit

/-- May it be handed in? -/
def lowB (p q : Int) : Bool := decide ((p = 1 ∧ q = 1) ∨ (p ≤ 1000 ∧ 0 < q ∧ q < p ∧ Nat.gcd p.toNat q.toNat = 1))
theorem lowB_one : lowB 1 1 = true := by decide
theorem lowB_no {p q : Int} (h1 : ¬ (p = 1 ∧ q = 1)) (h2 : ¬ (p ≤ 1000 ∧ 0 < q ∧ q < p)) : lowB p q = false := by
  unfold lowB
  rw [decide_eq_false_iff_not]
  intro h
  rcases h with h | ⟨a, b, c, -⟩
  · exact h1 h
  · exact h2 ⟨a, b, c⟩
theorem lowB_gcd {p q : Int} (h1 : p ≠ 1) (h2 : p ≤ 1000) (h3 : 0 < q) (h4 : q < p) : lowB p q = (Nat.gcd p.toNat q.toNat == 1) := by
  unfold lowB
  by_cases h : Nat.gcd p.toNat q.toNat = 1
  · rw [beq_iff_eq.2 h, decide_eq_true (Or.inr ⟨h2, h3, h4, h⟩)]
  · rw [beq_eq_false_iff_ne.2 h, decide_eq_false]
    intro hc
    rcases hc with hc | hc
    · exact h1 hc.1
    · exact h hc.2.2.2
theorem lowB_yes {p q : Int} (h : lowB p q = true) : 1 ≤ p ∧ p ≤ 1000 ∧ 1 ≤ q ∧ q ≤ p ∧ Nat.gcd p.toNat q.toNat = 1 := by
  unfold lowB at h
  have h := of_decide_eq_true h
  rcases h with ⟨rfl, rfl⟩ | ⟨a, b, c, d⟩
  · decide
  · exact ⟨by omega, by omega, by omega, by omega, d⟩

set_option maxHeartbeats 4000000 in
set_option maxRecDepth 100000 in
theorem divisor_any (p q : Nat) (w : World) (hp : p ≤ 1000) (hq : q ≤ 1000) :
    Calls Try.prog 176 #[.int .i64 (p : Nat), .int .i64 (q : Nat)] w fun e w' => e = .returned (.int .i64 (Nat.gcd p q : Nat)) ∧ Below w.heap.size w w' := by
  have HB : Hid (Below w.heap.size w w) := Below.refl _ _
  obtain ⟨g, hg⟩ : ∃ g, Nat.gcd p q = g := ⟨_, rfl⟩
  have HG : Hid (Nat.gcd p q = g) := hg
  rw [hg]
  clear hg
  go_enter Try.func176, Try.ntmps176
  go_wp2
  go_loopw [0, 1] (fun v0 v1 wr => ∃ a b : Nat, a ≤ 1000 ∧ b ≤ 1000 ∧ v0 = .int .i64 (a : Nat) ∧ v1 = .int .i64 (b : Nat) ∧ Hid (Nat.gcd a b = g) ∧ Hid (Below w.heap.size w wr)) (fun _ v1 _ => (intOf v1).toNat)
  case atStart => exact ⟨p, q, hp, hq, rfl, rfl, HG.out, HB.out⟩
  case round =>
    clear HB HG hp hq
    rename World => W1
    obtain ⟨a, b, ha, hbb, rfl, rfl, hgc, hb⟩ := hrel
    by_cases h0 : b = 0
    · subst h0
      obtain rfl : a = g := by have := hgc.out; rwa [Nat.gcd_zero_right] at this
      go_wp2
      go_ret
      exact ⟨rfl, hb.out⟩
    · have er : (a : Int).tmod (b : Int) = ((a % b : Nat) : Int) := rfl
      have hf0 : ((b : Int) == 0) = false := by simp; omega
      have hfn : (b : Int) ≠ 0 := by omega
      have hlt : a % b < b := Nat.mod_lt _ (by omega)
      obtain ⟨r, hr⟩ : ∃ r, a % b = r := ⟨_, rfl⟩
      have HG2 : Hid (Nat.gcd b r = g) := (by rw [← hr, Nat.gcd_comm, ← Nat.gcd_rec, Nat.gcd_comm]; exact hgc.out : Nat.gcd b r = g)
      rw [hr] at er hlt
      clear hr hgc
      have HBD : Hid (∀ n, Below w.heap.size w (W1.drewN n)) := below_drewN hb.out
      go_wp2
      go_quiet (fail)
      go_wp2
      go_roundw
      case rel => exact ⟨b, r, by omega, by omega, rfl, rfl, HG2.out, HBD.out _⟩
      case measure => simp only [intOf]; omega

theorem gcd_found {a b n : Nat} (ha : 1 ≤ a) (h1 : n ∣ a) (h2 : n ∣ b) (h : ∀ m, n < m → m ≤ a → ¬ (m ∣ a ∧ m ∣ b)) : Nat.gcd a b = n := by
  have h3 : n ∣ Nat.gcd a b := Nat.dvd_gcd h1 h2
  have h4 : Nat.gcd a b ≤ a := Nat.le_of_dvd ha (Nat.gcd_dvd_left a b)
  have h5 : 0 < Nat.gcd a b := Nat.gcd_pos_of_pos_left b ha
  have h6 := Nat.le_of_dvd h5 h3
  rcases Nat.lt_or_ge n (Nat.gcd a b) with h7 | h7
  · exact absurd ⟨Nat.gcd_dvd_left a b, Nat.gcd_dvd_right a b⟩ (h _ h7 h4)
  · omega

set_option maxHeartbeats 4000000 in
set_option maxRecDepth 100000 in
theorem divisorOf_any (p q : Nat) (w : World) (hp1 : 1 ≤ p) (hp : p ≤ 1000) :
    Calls Try.prog 123 #[.int .i64 (p : Nat), .int .i64 (q : Nat)] w fun e w' => e = .returned (.int .i64 (Nat.gcd p q : Nat)) ∧ Below w.heap.size w w' := by
  have HB : Hid (Below w.heap.size w w) := Below.refl _ _
  go_enter Try.func123, Try.ntmps123
  go_wp2
  go_loopw [5] (fun v5 wr => ∃ n : Nat, 1 ≤ n ∧ n ≤ p ∧ v5 = .int .i64 (n : Nat) ∧ Hid (∀ m, n < m → m ≤ p → ¬ (m ∣ p ∧ m ∣ q)) ∧ Hid (Below w.heap.size w wr)) (fun v5 _ => (intOf v5).toNat)
  case atStart => exact ⟨p, hp1, Nat.le_refl _, rfl, (fun m h1 h2 => by omega), HB.out⟩
  case round =>
    clear HB
    rename World => W1
    obtain ⟨n, hn1, hnp, rfl, hno, hb⟩ := hrel
    by_cases h1 : 1 < n
    · have er : (p : Int).tmod (n : Int) = ((p % n : Nat) : Int) := rfl
      have er2 : (q : Int).tmod (n : Int) = ((q % n : Nat) : Int) := rfl
      have hf0 : ((n : Int) == 0) = false := by simp; omega
      have hfn : (n : Int) ≠ 0 := by omega
      have hlt : p % n < n := Nat.mod_lt _ (by omega)
      have hlt2 : q % n < n := Nat.mod_lt _ (by omega)
      obtain ⟨r, hr⟩ : ∃ r, p % n = r := ⟨_, rfl⟩
      have HR : Hid (p % n = r) := hr
      obtain ⟨s, hs⟩ : ∃ s, q % n = s := ⟨_, rfl⟩
      have HS : Hid (q % n = s) := hs
      rw [hr] at er hlt
      rw [hs] at er2 hlt2
      clear hr hs
      have HNX : Hid (¬ (n ∣ p ∧ n ∣ q) → ∀ m, n - 1 < m → m ≤ p → ¬ (m ∣ p ∧ m ∣ q)) := fun hne m a1 a2 => by
        by_cases e : m = n
        · rw [e]; exact hne
        · exact hno.out m (by omega) a2
      by_cases hr0 : r = 0
      · subst hr0
        by_cases hs0 : s = 0
        · subst hs0
          have HGC : Hid (Nat.gcd p q = n) := gcd_found hp1 (Nat.dvd_of_mod_eq_zero HR.out) (Nat.dvd_of_mod_eq_zero HS.out) hno.out
          go_wp2
          go_ret
          exact ⟨ret_int (by rw [HGC.out]), hb.out⟩
        · have hsz : ((s : Int) == 0) = false := by simp; omega
          have HNE : Hid (∀ m, n - 1 < m → m ≤ p → ¬ (m ∣ p ∧ m ∣ q)) := HNX.out fun hc => hs0 (by rw [← HS.out]; exact Nat.mod_eq_zero_of_dvd hc.2)
          go_wp2
          go_roundw
          case rel => exact ⟨n - 1, by omega, by omega, by congr 1; omega, HNE.out, hb.out⟩
          case measure => simp only [intOf]; omega
      · have hrz : ((r : Int) == 0) = false := by simp; omega
        have HNE : Hid (∀ m, n - 1 < m → m ≤ p → ¬ (m ∣ p ∧ m ∣ q)) := HNX.out fun hc => hr0 (by rw [← HR.out]; exact Nat.mod_eq_zero_of_dvd hc.1)
        go_wp2
        go_roundw
        case rel => exact ⟨n - 1, by omega, by omega, by congr 1; omega, HNE.out, hb.out⟩
        case measure => simp only [intOf]; omega
    · obtain rfl : n = 1 := by omega
      have HGC : Hid (Nat.gcd p q = 1) := gcd_found hp1 (Nat.one_dvd _) (Nat.one_dvd _) hno.out
      go_wp2
      go_ret
      exact ⟨ret_int (by rw [HGC.out]; rfl), hb.out⟩

set_option maxHeartbeats 4000000 in
set_option maxRecDepth 100000 in
theorem proper_any (p q : Int) (w : World) :
    Calls Try.prog 121 #[.int .i64 p, .int .i64 q] w fun e w' => e = .returned (.bool (lowB p q)) ∧ Below w.heap.size w w' := by
  have HB : Hid (Below w.heap.size w w) := Below.refl _ _
  by_cases h1 : p = 1 ∧ q = 1
  · obtain ⟨rfl, rfl⟩ := h1
    rw [lowB_one]
    go_enter Try.func121, Try.ntmps121
    go_wp2
    go_ret
    exact ⟨rfl, HB.out⟩
  · by_cases h2 : p ≤ 1000 ∧ 0 < q ∧ q < p
    · obtain ⟨h3, h4, h5⟩ := h2
      have hp1 : (p == 1) = false := by simp; omega
      rw [lowB_gcd (by omega) h3 h4 h5]
      obtain ⟨m, rfl⟩ : ∃ m : Nat, p = (m : Int) := ⟨p.toNat, by omega⟩
      obtain ⟨n, rfl⟩ : ∃ n : Nat, q = (n : Int) := ⟨q.toNat, by omega⟩
      rw [Int.toNat_natCast, Int.toNat_natCast]
      have HD : Hid (∀ W, Calls Try.prog 176 #[.int .i64 (m : Nat), .int .i64 (n : Nat)] W fun e w' => e = .returned (.int .i64 (Nat.gcd m n : Nat)) ∧ Below W.heap.size W w') := fun W => divisor_any m n W (by omega) (by omega)
      generalize Nat.gcd m n = g at HD
      clear h1 HB
      go_enter Try.func121, Try.ntmps121
      go_wp2_with (go_at_call 176; refine (HD.out _).mono ?_; rintro e9 w2 ⟨rfl, hb2⟩; refine Hid.out ?_)
      refine Lib.hid ?_
      have HB2 : Hid (Below w.heap.size w w2) := hb2
      clear hb2
      by_cases hg : g = 1
      · subst hg
        go_wp2
        go_ret
        exact ⟨by rfl, HB2.out⟩
      · have hgz : ((g : Int) == 1) = false := by simp; omega
        have HX : Hid ((g == 1) = false) := beq_eq_false_iff_ne.2 hg
        go_wp2
        go_ret
        exact ⟨ret_bool HX.out, HB2.out⟩
    · rw [lowB_no h1 h2]
      by_cases hp : p = 1
      · subst hp
        have hq1 : (q == 1) = false := by simp; omega
        clear h1 h2
        by_cases h4 : 0 < q
        · have hq2 : ¬ q < 1 := by omega
          go_enter Try.func121, Try.ntmps121
          go_wp2
          go_ret
          exact ⟨rfl, HB.out⟩
        · go_enter Try.func121, Try.ntmps121
          go_wp2
          go_ret
          exact ⟨rfl, HB.out⟩
      · have hp1 : (p == 1) = false := by simp; omega
        by_cases h3 : p ≤ 1000
        · by_cases h4 : 0 < q
          · have h5 : ¬ q < p := by omega
            clear h1 h2
            go_enter Try.func121, Try.ntmps121
            go_wp2
            go_ret
            exact ⟨rfl, HB.out⟩
          · clear h1 h2
            go_enter Try.func121, Try.ntmps121
            go_wp2
            go_ret
            exact ⟨rfl, HB.out⟩
        · clear h1 h2
          go_enter Try.func121, Try.ntmps121
          go_wp2
          go_ret
          exact ⟨rfl, HB.out⟩

set_option maxHeartbeats 4000000 in
set_option maxRecDepth 100000 in
theorem lowestIs_any (p q : Int) (w : World) :
    Calls Try.prog 58 #[.int .i64 p, .int .i64 q] w fun e w' => e = .returned (.bool (lowB p q)) ∧ Below w.heap.size w w' := by
  have HB : Hid (Below w.heap.size w w) := Below.refl _ _
  by_cases h1 : p = 1 ∧ q = 1
  · obtain ⟨rfl, rfl⟩ := h1
    rw [lowB_one]
    go_enter Try.func58, Try.ntmps58
    go_wp2
    go_ret
    exact ⟨rfl, HB.out⟩
  · by_cases h2 : p ≤ 1000 ∧ 0 < q ∧ q < p
    · obtain ⟨h3, h4, h5⟩ := h2
      have hp1 : (p == 1) = false := by simp; omega
      have hp2 : 1 ≤ p := by omega
      rw [lowB_gcd (by omega) h3 h4 h5]
      obtain ⟨m, rfl⟩ : ∃ m : Nat, p = (m : Int) := ⟨p.toNat, by omega⟩
      obtain ⟨n, rfl⟩ : ∃ n : Nat, q = (n : Int) := ⟨q.toNat, by omega⟩
      rw [Int.toNat_natCast, Int.toNat_natCast]
      have HD : Hid (∀ W, Calls Try.prog 123 #[.int .i64 (m : Nat), .int .i64 (n : Nat)] W fun e w' => e = .returned (.int .i64 (Nat.gcd m n : Nat)) ∧ Below W.heap.size W w') := fun W => divisorOf_any m n W (by omega) (by omega)
      generalize Nat.gcd m n = g at HD
      clear h1 HB
      go_enter Try.func58, Try.ntmps58
      go_wp2_with (go_at_call 123; refine (HD.out _).mono ?_; rintro e9 w2 ⟨rfl, hb2⟩; refine Hid.out ?_)
      refine Lib.hid ?_
      have HB2 : Hid (Below w.heap.size w w2) := hb2
      clear hb2
      by_cases hg : g = 1
      · subst hg
        go_wp2
        go_ret
        exact ⟨by rfl, HB2.out⟩
      · have hgz : ((g : Int) == 1) = false := by simp; omega
        have HX : Hid ((g == 1) = false) := beq_eq_false_iff_ne.2 hg
        go_wp2
        go_ret
        exact ⟨ret_bool HX.out, HB2.out⟩
    · rw [lowB_no h1 h2]
      by_cases hp : p = 1
      · subst hp
        have hq1 : (q == 1) = false := by simp; omega
        clear h1 h2
        by_cases h4 : 0 < q
        · have hq2 : ¬ q < 1 := by omega
          go_enter Try.func58, Try.ntmps58
          go_wp2
          go_ret
          exact ⟨rfl, HB.out⟩
        · go_enter Try.func58, Try.ntmps58
          go_wp2
          go_ret
          exact ⟨rfl, HB.out⟩
      · have hp1 : (p == 1) = false := by simp; omega
        by_cases h0 : 1 ≤ p
        · by_cases h3 : p ≤ 1000
          · by_cases h4 : 0 < q
            · have h5 : ¬ q < p := by omega
              clear h1 h2
              go_enter Try.func58, Try.ntmps58
              go_wp2
              go_ret
              exact ⟨rfl, HB.out⟩
            · clear h1 h2
              go_enter Try.func58, Try.ntmps58
              go_wp2
              go_ret
              exact ⟨rfl, HB.out⟩
          · clear h1 h2
            go_enter Try.func58, Try.ntmps58
            go_wp2
            go_ret
            exact ⟨rfl, HB.out⟩
        · clear h1 h2
          go_enter Try.func58, Try.ntmps58
          go_wp2
          go_ret
          exact ⟨rfl, HB.out⟩
end Go.Proofs.Ytbikalghmlihlaa
