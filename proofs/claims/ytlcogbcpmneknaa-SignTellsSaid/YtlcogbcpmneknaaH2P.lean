/- Several texts of the proof, one behind the other. -/
import Derived.Test.YtlcogbcpmneknaaBaseP
/- The walk of ref.DiagramMay: which diagrams may be, by counting. -/
namespace Go.Proofs.Ytlcogbcpmneknaa
open Go.RowKit

/-- At how many of the first k sides a comes in. -/
def sideIn (x : Cr) (a : Int) : Nat → Nat
  | 0 => 0
  | k + 1 => sideIn x a k + (if x.arc k = a ∧ x.comes k = true then 1 else 0)
/-- At how many of the first k sides a goes out. -/
def sideOut (x : Cr) (a : Int) : Nat → Nat
  | 0 => 0
  | k + 1 => sideOut x a k + (if x.arc k = a ∧ x.comes k = false then 1 else 0)
def inTo (C : List Cr) (a : Int) : Nat → Nat
  | 0 => 0
  | i + 1 => inTo C a i + sideIn (C.getD i Cr.none) a 4
def outTo (C : List Cr) (a : Int) : Nat → Nat
  | 0 => 0
  | i + 1 => outTo C a i + sideOut (C.getD i Cr.none) a 4
/-- Arc a comes in once and goes out once. -/
def onceB (C : List Cr) (a : Nat) : Bool := decide (inTo C a C.length = 1) && decide (outTo C a C.length = 1)
/-- Crossings and loops are not too many, and not none. -/
def sizeB (C : List Cr) (loops : Int) : Bool := decide (C.length ≤ 16) && decide (0 ≤ loops) && decide (loops ≤ 16) && !(decide (C.length = 0) && decide (loops = 0))
/-- The diagram may be. -/
def mayD (C : List Cr) (loops : Int) : Bool := sizeB C loops && (List.range (2 * C.length)).all fun j => onceB C (j + 1)

theorem sideIn_le (x : Cr) (a : Int) (k : Nat) : sideIn x a k ≤ k := by
  induction k with
  | zero => exact Nat.le_refl _
  | succ k ih => simp only [sideIn]; split <;> omega
theorem sideOut_le (x : Cr) (a : Int) (k : Nat) : sideOut x a k ≤ k := by
  induction k with
  | zero => exact Nat.le_refl _
  | succ k ih => simp only [sideOut]; split <;> omega
theorem inTo_le (C : List Cr) (a : Int) (i : Nat) : inTo C a i ≤ 4 * i := by
  induction i with
  | zero => exact Nat.le_refl _
  | succ i ih => have := sideIn_le (C.getD i Cr.none) a 4; simp only [inTo]; omega
theorem outTo_le (C : List Cr) (a : Int) (i : Nat) : outTo C a i ≤ 4 * i := by
  induction i with
  | zero => exact Nat.le_refl _
  | succ i ih => have := sideOut_le (C.getD i Cr.none) a 4; simp only [outTo]; omega
theorem mayD_no {C : List Cr} {loops : Int} {a : Nat} (h0 : 1 ≤ a) (h1 : a ≤ 2 * C.length) (h : onceB C a = false) : mayD C loops = false := by
  cases hm : mayD C loops with
  | false => rfl
  | true =>
    simp only [mayD, Bool.and_eq_true, List.all_eq_true, List.mem_range] at hm
    have := hm.2 (a - 1) (by omega)
    rw [show a - 1 + 1 = a by omega, h] at this
    cases this
theorem mayD_yes {C : List Cr} {loops : Int} (hs : sizeB C loops = true) (h : ∀ a : Nat, 1 ≤ a → a ≤ 2 * C.length → onceB C a = true) : mayD C loops = true := by
  simp only [mayD, Bool.and_eq_true, List.all_eq_true, List.mem_range]
  exact ⟨hs, fun j hj => h (j + 1) (by omega) (by omega)⟩
theorem mayD_size {C : List Cr} {loops : Int} (hs : sizeB C loops = false) : mayD C loops = false := by
  simp [mayD, hs]

/-- A slice of crossings. -/
def Crs (w : World) (B : Nat) (v : Value) (C : List Cr) : Prop := ∃ a cap, v = .slice a C.length cap ∧ C.length ≤ maxLen ∧ (0 < C.length → ∃ b off, a = some ⟨b, off, none⟩ ∧ b < B ∧ CrossAt w b off C)

set_option maxHeartbeats 4000000 in
set_option maxRecDepth 100000 in
theorem may17_size (v : Value) (C : List Cr) (loops : Int) (w : World) (h : Crs w w.heap.size v C) (hs : sizeB C loops = false) :
    Calls Try.prog 34 #[.agg #[v, .int .i64 loops]] w fun e w' => e = .returned (.bool false) ∧ Below w.heap.size w w' := by
  obtain ⟨a, cap, rfl, hn, _⟩ := h
  have hn' : C.length ≤ 9223372036854775807 := hn
  have hb1 : ∀ o, Below w.heap.size w (w.alloc o) := fun o => (Below.refl _ _).alloc (Nat.le_refl _) o
  by_cases h1 : 16 < C.length
  · have d1 : decide (16 < (C.length : Int)) = true := by simp; omega
    have d2 : decide (16 < C.length) = true := by simp; omega
    go_enter Try.func34, Try.ntmps34
    go_wp2
    go_ret
    exact ⟨rfl, hb1 _⟩
  · by_cases h2 : loops < 0
    · have d2 : decide (loops < 0) = true := by simpa using h2
      go_enter Try.func34, Try.ntmps34
      go_wp2
      go_ret
      exact ⟨rfl, hb1 _⟩
    · by_cases h3 : 16 < loops
      · have d3 : decide (16 < loops) = true := by simpa using h3
        go_enter Try.func34, Try.ntmps34
        go_wp2
        go_ret
        exact ⟨rfl, hb1 _⟩
      · have h4 : C.length = 0 ∧ loops = 0 := by
          simp only [sizeB, Bool.and_eq_false_iff, decide_eq_false_iff_not, Bool.not_eq_false', Bool.and_eq_true, decide_eq_true_eq] at hs
          omega
        obtain ⟨h4, rfl⟩ := h4
        rw [h4]
        go_enter Try.func34, Try.ntmps34
        go_wp2
        go_ret
        exact ⟨rfl, hb1 _⟩
end Go.Proofs.Ytlcogbcpmneknaa
/- The walk of ref.DiagramMay where crossings and loops are not too many. -/
namespace Go.Proofs.Ytlcogbcpmneknaa
open Go.RowKit

theorem sizeB_iff {C : List Cr} {loops : Int} (h : sizeB C loops = true) : C.length ≤ 16 ∧ 0 ≤ loops ∧ loops ≤ 16 ∧ ¬(C.length = 0 ∧ loops = 0) := by
  simp only [sizeB, Bool.and_eq_true, decide_eq_true_eq, Bool.not_eq_true', Bool.and_eq_false_iff, decide_eq_false_iff_not] at h
  omega

set_option maxHeartbeats 8000000 in
set_option maxRecDepth 100000 in
theorem may17_some (b off cap : Nat) (C : List Cr) (loops : Int) (w : World) (hs : sizeB C loops = true) (hp : 0 < C.length) (hbw : b < w.heap.size) (hC : CrossAt w b off C) :
    Calls Try.prog 34 #[.agg #[.slice (some ⟨b, off, none⟩) C.length cap, .int .i64 loops]] w fun e w' => e = .returned (.bool (mayD C loops)) ∧ Below w.heap.size w w' := by
  obtain ⟨s1, s2, s3, s4⟩ := sizeB_iff hs
  have HC : Hid (CrossAt w b off C) := hC
  have HS : Hid (sizeB C loops = true) := hs
  clear hC hs s4
  obtain ⟨w1, hw1⟩ : ∃ w1, w1 = w.alloc (.cells #[.slice (some ⟨b, off, none⟩) C.length cap, .int .i64 loops] 24) := ⟨_, rfl⟩
  have hsz1 : w1.heap.size = w.heap.size + 1 := by rw [hw1]; simp
  have HT1 : Hid (w1.heap[w.heap.size]? = some (.cells #[.slice (some ⟨b, off, none⟩) C.length cap, .int .i64 loops] 24 (0, 0))) := (by rw [hw1]; exact Array.getElem?_push_size : w1.heap[w.heap.size]? = some (.cells #[.slice (some ⟨b, off, none⟩) C.length cap, .int .i64 loops] 24 (0, 0)))
  have HE0 : Hid (w1.cell? ⟨w.heap.size, 0, none⟩ = some (.slice (some ⟨b, off, none⟩) C.length cap)) := (by unfold World.cell?; rw [HT1.out]; rfl : w1.cell? ⟨w.heap.size, 0, none⟩ = some (.slice (some ⟨b, off, none⟩) C.length cap))
  have HE1 : Hid (w1.cell? ⟨w.heap.size, 1, none⟩ = some (.int .i64 loops)) := (by unfold World.cell?; rw [HT1.out]; rfl : w1.cell? ⟨w.heap.size, 1, none⟩ = some (.int .i64 loops))
  have HB1 : Hid (Below w.heap.size w w1) := (by rw [hw1]; exact (Below.refl _ _).alloc (Nat.le_refl _) _ : Below w.heap.size w w1)
  have HC1 : Hid (CrossAt w1 b off C) := HC.out.on HB1.out hbw
  have HW1 : Hid (w1 = w.alloc (.cells #[.slice (some ⟨b, off, none⟩) C.length cap, .int .i64 loops] 24)) := hw1
  clear hw1
  have dA : decide (16 < (C.length : Int)) = false := by simp; omega
  have dA2 : decide (16 < C.length) = false := by simp; omega
  have dB : decide (loops < 0) = false := by simp; omega
  have dC : decide (16 < loops) = false := by simp; omega
  have dD : ((C.length : Int) == 0) = false := by rw [beq_eq_false_iff_ne]; omega
  go_enter Try.func34, Try.ntmps34
  go_wp2
  go_loopw [4] (fun va wr => ∃ a : Nat, 1 ≤ a ∧ a ≤ 2 * C.length + 1 ∧ va = .int .i64 a ∧ Hid (∀ j : Nat, 1 ≤ j → j < a → onceB C j = true) ∧ Below w1.heap.size w1 wr) (fun va _ => 2 * C.length + 1 - (intOf va).toNat)
  case atStart => exact ⟨1, Nat.le_refl _, by omega, rfl, fun j h0 h1 => by omega, by rw [← HW1.out]; exact Below.refl _ _⟩
  case round =>
    rename World => W1
    obtain ⟨a, ha1, ha2, rfl, hall, hb⟩ := hrel
    have hszW := hb.size
    have c0 := bcell hb (by omega) HE0.out
    have c1 := bcell hb (by omega) HE1.out
    by_cases hlt : a ≤ 2 * C.length
    · have hda : decide ((a : Int) ≤ 2 * (C.length : Int)) = true := by simp; omega
      go_wp2
      clear c0 c1
      go_loopw [5, 6, 7] (fun vi vo v7 ws => ∃ i : Nat, i ≤ C.length ∧ v7 = .int .i64 i ∧ vi = .int .i64 (inTo C a i : Nat) ∧ vo = .int .i64 (outTo C a i : Nat) ∧ Below w1.heap.size w1 ws) (fun _ _ v7 _ => C.length - (intOf v7).toNat)
      case atStart => exact ⟨0, Nat.zero_le _, rfl, rfl, rfl, hb⟩
      case round =>
        clear hb
        rename World => W2
        obtain ⟨i, hi, rfl, rfl, rfl, hb⟩ := hrel
        have hszX := hb.size
        have c0 := bcell hb (by omega) HE0.out
        have c1 := bcell hb (by omega) HE1.out
        by_cases hil : i < C.length
        · have HNI : Hid (inTo C a (i + 1) = inTo C a i + sideIn (C.getD i Cr.none) a 4) := (rfl : inTo C a (i + 1) = inTo C a i + sideIn (C.getD i Cr.none) a 4)
          have HNO : Hid (outTo C a (i + 1) = outTo C a i + sideOut (C.getD i Cr.none) a 4) := (rfl : outTo C a (i + 1) = outTo C a i + sideOut (C.getD i Cr.none) a 4)
          have hli := inTo_le C a i
          have hlo := outTo_le C a i
          generalize inTo C a i = ni at HNI hli
          generalize outTo C a i = no at HNO hlo
          have hdi : decide ((i : Int) < (C.length : Int)) = true := by simp; omega
          have hdi2 : decide (i < C.length) = true := by simp; omega
          go_wp2
          clear c0 c1
          go_loopw [5, 6, 8] (fun vi vo v8 ws => ∃ k : Nat, k ≤ 4 ∧ v8 = .int .i64 k ∧ vi = .int .i64 (ni + sideIn (C.getD i Cr.none) a k : Nat) ∧ vo = .int .i64 (no + sideOut (C.getD i Cr.none) a k : Nat) ∧ Below w1.heap.size w1 ws) (fun _ _ v8 _ => 4 - (intOf v8).toNat)
          case atStart => exact ⟨0, Nat.zero_le _, rfl, rfl, rfl, hb⟩
          case round =>
            clear hb
            rename World => W3
            obtain ⟨k, hk, rfl, rfl, rfl, hb⟩ := hrel
            have hszY := hb.size
            by_cases hkl : k < 4
            · have hsi := sideIn_le (C.getD i Cr.none) a k
              have hso := sideOut_le (C.getD i Cr.none) a k
              have HSI : Hid (sideIn (C.getD i Cr.none) a (k + 1) = sideIn (C.getD i Cr.none) a k + (if (C.getD i Cr.none).arc k = a ∧ (C.getD i Cr.none).comes k = true then 1 else 0)) := (rfl : sideIn (C.getD i Cr.none) a (k + 1) = sideIn (C.getD i Cr.none) a k + (if (C.getD i Cr.none).arc k = a ∧ (C.getD i Cr.none).comes k = true then 1 else 0))
              have HSO : Hid (sideOut (C.getD i Cr.none) a (k + 1) = sideOut (C.getD i Cr.none) a k + (if (C.getD i Cr.none).arc k = a ∧ (C.getD i Cr.none).comes k = false then 1 else 0)) := (rfl : sideOut (C.getD i Cr.none) a (k + 1) = sideOut (C.getD i Cr.none) a k + (if (C.getD i Cr.none).arc k = a ∧ (C.getD i Cr.none).comes k = false then 1 else 0))
              generalize sideIn (C.getD i Cr.none) a k = si at HSI hsi
              generalize sideOut (C.getD i Cr.none) a k = so at HSO hso
              have HF : Hid (∀ wX, Below (W3.alloc (.cells #[.int .i64 i, .int .i64 k] 56)).heap.size (W3.alloc (.cells #[.int .i64 i, .int .i64 k] 56)) wX → wX.cell? ⟨w.heap.size, 0, none⟩ = some (.slice (some ⟨b, off, none⟩) C.length cap) ∧ wX.cell? ⟨w.heap.size, 1, none⟩ = some (.int .i64 loops) ∧
                  wX.cell? ⟨W3.heap.size, 0, none⟩ = some (.int .i64 i) ∧ wX.cell? ⟨W3.heap.size, 1, none⟩ = some (.int .i64 k) ∧ w.heap.size < wX.heap.size ∧ W3.heap.size < wX.heap.size ∧ b < wX.heap.size ∧ CrossAt wX b off C) := fun wX hX => by
                have hB : Below w1.heap.size w1 wX := (hb.alloc hszY _).trans (hX.mono (by simp; omega))
                have hsX := hX.size
                simp only [World.size_alloc] at hsX
                have hT : wX.heap[W3.heap.size]? = some (.cells #[.int .i64 i, .int .i64 k] 56 (0, 0)) := (hX.block _ (by simp)).trans Array.getElem?_push_size
                exact ⟨bcell hB (by omega) HE0.out, bcell hB (by omega) HE1.out, by unfold World.cell?; rw [hT]; rfl, by unfold World.cell?; rw [hT]; rfl, by omega, by omega, by omega, HC1.out.on hB (by omega)⟩
              have c0 := bcell hb (by omega) HE0.out
              have c1 := bcell hb (by omega) HE1.out
              have hbs : w.heap.size < W3.heap.size := by omega
              have HB0 : Hid (Below (W3.alloc (.cells #[.int .i64 i, .int .i64 k] 56)).heap.size (W3.alloc (.cells #[.int .i64 i, .int .i64 k] 56)) (W3.alloc (.cells #[.int .i64 i, .int .i64 k] 56))) := Below.refl _ _
              have HBN : Hid (∀ wX, Below (W3.alloc (.cells #[.int .i64 i, .int .i64 k] 56)).heap.size (W3.alloc (.cells #[.int .i64 i, .int .i64 k] 56)) wX → Below w1.heap.size w1 wX) := fun wX hX => (hb.alloc hszY _).trans (hX.mono (by simp; omega))
              obtain ⟨av, hav⟩ : ∃ av, (C.getD i Cr.none).arc k = av := ⟨_, rfl⟩
              obtain ⟨cv, hcv⟩ : ∃ cv, (C.getD i Cr.none).comes k = cv := ⟨_, rfl⟩
              rw [hav, hcv] at HSI HSO
              have HAR : Hid ((C.getD i Cr.none).arc k = av) := hav
              have HCO : Hid ((C.getD i Cr.none).comes k = cv) := hcv
              clear hav hcv hb
              by_cases heq : av = (a : Int)
              · subst heq
                cases cv with
                | true =>
                  rw [if_pos ⟨rfl, rfl⟩] at HSI
                  rw [if_neg (fun h => by cases h.2)] at HSO
                  go_wp2_with (go_at_call 24; refine (arcAt_any b off cap loops C i k _ hil hkl (HF.out _ HB0.out).2.2.2.2.2.2.1 (HF.out _ HB0.out).2.2.2.2.2.2.2).mono ?_; rw [HAR.out]; rintro e9 w4 ⟨rfl, hb4⟩; refine Hid.out ?_)
                  refine Lib.hid ?_
                  have HB4 : Hid (Below (W3.alloc (.cells #[.int .i64 i, .int .i64 k] 56)).heap.size (W3.alloc (.cells #[.int .i64 i, .int .i64 k] 56)) w4) := hb4
                  obtain ⟨p0, p1, q0, q1, r0, r1, -, -⟩ := HF.out w4 HB4.out
                  clear hb4
                  clear c0 c1
                  go_wp2_with (go_at_call 39; refine (entry_any b off cap loops C i k _ hil hkl (HF.out _ HB4.out).2.2.2.2.2.2.1 (HF.out _ HB4.out).2.2.2.2.2.2.2).mono ?_; rw [HCO.out]; rintro e9 w5 ⟨rfl, hb5⟩; refine Hid.out ?_)
                  refine Lib.hid ?_
                  clear p0 p1 q0 q1 r0 r1
                  have HB5 : Hid (Below (W3.alloc (.cells #[.int .i64 i, .int .i64 k] 56)).heap.size (W3.alloc (.cells #[.int .i64 i, .int .i64 k] 56)) w5) := HB4.out.trans (hb5.mono HB4.out.size)
                  obtain ⟨p0, p1, q0, q1, r0, r1, -, -⟩ := HF.out w5 HB5.out
                  clear hb5
                  go_wp2_with (go_at_call 24; refine (arcAt_any b off cap loops C i k _ hil hkl (HF.out _ HB5.out).2.2.2.2.2.2.1 (HF.out _ HB5.out).2.2.2.2.2.2.2).mono ?_; rw [HAR.out]; rintro e9 w6 ⟨rfl, hb6⟩; refine Hid.out ?_)
                  refine Lib.hid ?_
                  clear p0 p1 q0 q1 r0 r1
                  have HB6 : Hid (Below (W3.alloc (.cells #[.int .i64 i, .int .i64 k] 56)).heap.size (W3.alloc (.cells #[.int .i64 i, .int .i64 k] 56)) w6) := HB5.out.trans (hb6.mono HB5.out.size)
                  obtain ⟨p0, p1, q0, q1, r0, r1, -, -⟩ := HF.out w6 HB6.out
                  clear hb6
                  go_wp2_with (go_at_call 39; refine (entry_any b off cap loops C i k _ hil hkl (HF.out _ HB6.out).2.2.2.2.2.2.1 (HF.out _ HB6.out).2.2.2.2.2.2.2).mono ?_; rw [HCO.out]; rintro e9 w7 ⟨rfl, hb7⟩; refine Hid.out ?_)
                  refine Lib.hid ?_
                  clear p0 p1 q0 q1 r0 r1
                  have HB7 : Hid (Below (W3.alloc (.cells #[.int .i64 i, .int .i64 k] 56)).heap.size (W3.alloc (.cells #[.int .i64 i, .int .i64 k] 56)) w7) := HB6.out.trans (hb7.mono HB6.out.size)
                  obtain ⟨p0, p1, q0, q1, r0, r1, -, -⟩ := HF.out w7 HB7.out
                  clear hb7
                  go_wp2
                  go_roundw
                  case rel => exact ⟨k + 1, by omega, by go_num, by rw [HSI.out]; go_num, by rw [HSO.out]; go_num, HBN.out _ HB7.out⟩
                  case measure => simp only [intOf]; omega
                | false =>
                  rw [if_neg (fun h => by cases h.2)] at HSI
                  rw [if_pos ⟨rfl, rfl⟩] at HSO
                  go_wp2_with (go_at_call 24; refine (arcAt_any b off cap loops C i k _ hil hkl (HF.out _ HB0.out).2.2.2.2.2.2.1 (HF.out _ HB0.out).2.2.2.2.2.2.2).mono ?_; rw [HAR.out]; rintro e9 w4 ⟨rfl, hb4⟩; refine Hid.out ?_)
                  refine Lib.hid ?_
                  have HB4 : Hid (Below (W3.alloc (.cells #[.int .i64 i, .int .i64 k] 56)).heap.size (W3.alloc (.cells #[.int .i64 i, .int .i64 k] 56)) w4) := hb4
                  obtain ⟨p0, p1, q0, q1, r0, r1, -, -⟩ := HF.out w4 HB4.out
                  clear hb4
                  clear c0 c1
                  go_wp2_with (go_at_call 39; refine (entry_any b off cap loops C i k _ hil hkl (HF.out _ HB4.out).2.2.2.2.2.2.1 (HF.out _ HB4.out).2.2.2.2.2.2.2).mono ?_; rw [HCO.out]; rintro e9 w5 ⟨rfl, hb5⟩; refine Hid.out ?_)
                  refine Lib.hid ?_
                  clear p0 p1 q0 q1 r0 r1
                  have HB5 : Hid (Below (W3.alloc (.cells #[.int .i64 i, .int .i64 k] 56)).heap.size (W3.alloc (.cells #[.int .i64 i, .int .i64 k] 56)) w5) := HB4.out.trans (hb5.mono HB4.out.size)
                  obtain ⟨p0, p1, q0, q1, r0, r1, -, -⟩ := HF.out w5 HB5.out
                  clear hb5
                  go_wp2_with (go_at_call 24; refine (arcAt_any b off cap loops C i k _ hil hkl (HF.out _ HB5.out).2.2.2.2.2.2.1 (HF.out _ HB5.out).2.2.2.2.2.2.2).mono ?_; rw [HAR.out]; rintro e9 w6 ⟨rfl, hb6⟩; refine Hid.out ?_)
                  refine Lib.hid ?_
                  clear p0 p1 q0 q1 r0 r1
                  have HB6 : Hid (Below (W3.alloc (.cells #[.int .i64 i, .int .i64 k] 56)).heap.size (W3.alloc (.cells #[.int .i64 i, .int .i64 k] 56)) w6) := HB5.out.trans (hb6.mono HB5.out.size)
                  obtain ⟨p0, p1, q0, q1, r0, r1, -, -⟩ := HF.out w6 HB6.out
                  clear hb6
                  go_wp2_with (go_at_call 39; refine (entry_any b off cap loops C i k _ hil hkl (HF.out _ HB6.out).2.2.2.2.2.2.1 (HF.out _ HB6.out).2.2.2.2.2.2.2).mono ?_; rw [HCO.out]; rintro e9 w7 ⟨rfl, hb7⟩; refine Hid.out ?_)
                  refine Lib.hid ?_
                  clear p0 p1 q0 q1 r0 r1
                  have HB7 : Hid (Below (W3.alloc (.cells #[.int .i64 i, .int .i64 k] 56)).heap.size (W3.alloc (.cells #[.int .i64 i, .int .i64 k] 56)) w7) := HB6.out.trans (hb7.mono HB6.out.size)
                  obtain ⟨p0, p1, q0, q1, r0, r1, -, -⟩ := HF.out w7 HB7.out
                  clear hb7
                  go_wp2
                  go_roundw
                  case rel => exact ⟨k + 1, by omega, by go_num, by rw [HSI.out]; go_num, by rw [HSO.out]; go_num, HBN.out _ HB7.out⟩
                  case measure => simp only [intOf]; omega
              · have dA1 : (av == (a : Int)) = false := by rw [beq_eq_false_iff_ne]; exact heq
                rw [if_neg (fun h => heq h.1)] at HSI HSO
                go_wp2_with (go_at_call 24; refine (arcAt_any b off cap loops C i k _ hil hkl (HF.out _ HB0.out).2.2.2.2.2.2.1 (HF.out _ HB0.out).2.2.2.2.2.2.2).mono ?_; rw [HAR.out]; rintro e9 w4 ⟨rfl, hb4⟩; refine Hid.out ?_)
                refine Lib.hid ?_
                have HB4 : Hid (Below (W3.alloc (.cells #[.int .i64 i, .int .i64 k] 56)).heap.size (W3.alloc (.cells #[.int .i64 i, .int .i64 k] 56)) w4) := hb4
                obtain ⟨p0, p1, q0, q1, r0, r1, -, -⟩ := HF.out w4 HB4.out
                clear hb4
                clear c0 c1
                go_wp2_with (go_at_call 24; refine (arcAt_any b off cap loops C i k _ hil hkl (HF.out _ HB4.out).2.2.2.2.2.2.1 (HF.out _ HB4.out).2.2.2.2.2.2.2).mono ?_; rw [HAR.out]; rintro e9 w5 ⟨rfl, hb5⟩; refine Hid.out ?_)
                refine Lib.hid ?_
                clear p0 p1 q0 q1 r0 r1
                have HB5 : Hid (Below (W3.alloc (.cells #[.int .i64 i, .int .i64 k] 56)).heap.size (W3.alloc (.cells #[.int .i64 i, .int .i64 k] 56)) w5) := HB4.out.trans (hb5.mono HB4.out.size)
                obtain ⟨p0, p1, q0, q1, r0, r1, -, -⟩ := HF.out w5 HB5.out
                clear hb5
                go_wp2
                go_roundw
                case rel => exact ⟨k + 1, by omega, by go_num, by rw [HSI.out]; go_num, by rw [HSO.out]; go_num, HBN.out _ HB5.out⟩
                case measure => simp only [intOf]; omega
            · obtain rfl : k = 4 := by omega
              go_wp2
              go_roundw
              case rel => exact ⟨i + 1, by omega, by go_num, by rw [HNI.out], by rw [HNO.out], hb⟩
              case measure => simp only [intOf]; omega
        · obtain rfl : i = C.length := by omega
          have HON : Hid (onceB C a = (decide (inTo C a C.length = 1) && decide (outTo C a C.length = 1))) := (rfl : onceB C a = (decide (inTo C a C.length = 1) && decide (outTo C a C.length = 1)))
          have hli := inTo_le C a C.length
          have hlo := outTo_le C a C.length
          generalize inTo C a C.length = ni at HON hli
          generalize outTo C a C.length = no at HON hlo
          by_cases h1 : ni = 1
          · subst h1
            by_cases h2 : no = 1
            · subst h2
              have HO : Hid (onceB C a = true) := (by rw [HON.out]; rfl : onceB C a = true)
              go_wp2
              go_roundw
              case rel =>
                refine ⟨a + 1, by omega, by omega, by go_num, fun j h0 h1 => ?_, hb⟩
                by_cases hj : j = a
                · rw [hj]; exact HO.out
                · exact hall.out j h0 (by omega)
              case measure => simp only [intOf]; omega
            · have HN : Hid (mayD C loops = false) := mayD_no ha1 hlt (by rw [HON.out]; simp [h2])
              have d2 : ((no : Int) != 1) = true := by rw [bne_iff_ne]; omega
              go_wp2
              go_ret
              exact ⟨ret_bool HN.out, HB1.out.trans (hb.mono HB1.out.size)⟩
          · have HN : Hid (mayD C loops = false) := mayD_no ha1 hlt (by rw [HON.out]; simp [h1])
            have d2 : ((ni : Int) != 1) = true := by rw [bne_iff_ne]; omega
            go_wp2
            go_ret
            exact ⟨ret_bool HN.out, HB1.out.trans (hb.mono HB1.out.size)⟩
    · have HY : Hid (mayD C loops = true) := mayD_yes HS.out (fun j h0 h1 => hall.out j h0 (by omega))
      go_wp2
      go_ret
      exact ⟨ret_bool HY.out, HB1.out.trans (hb.mono HB1.out.size)⟩
end Go.Proofs.Ytlcogbcpmneknaa
