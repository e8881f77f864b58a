/- Several texts of the proof, one behind the other. -/
import Derived.Test.YtlcogbcpmneknaaH2P
/- The walk of ref.DiagramMay at whatever diagram; the walk of drawing.unknown. -/
namespace Go.Proofs.Ytlcogbcpmneknaa
open Go.RowKit

set_option maxHeartbeats 2000000 in
set_option maxRecDepth 100000 in
theorem may17_none (a : Option Addr) (cap : Nat) (loops : Int) (w : World) (h0 : 1 ≤ loops) (h1 : loops ≤ 16) :
    Calls Try.prog 34 #[.agg #[.slice a 0 cap, .int .i64 loops]] w fun e w' => e = .returned (.bool true) ∧ Below w.heap.size w w' := by
  have dB : decide (loops < 0) = false := by simp; omega
  have dC : decide (16 < loops) = false := by simp; omega
  have dD : (loops == 0) = false := by rw [beq_eq_false_iff_ne]; omega
  go_enter Try.func34, Try.ntmps34
  go_wp2
  go_loopw [4] (fun va wr => va = .int .i64 1 ∧ Below w.heap.size w wr) (fun _ _ => 0)
  case atStart => exact ⟨rfl, (Below.refl _ _).alloc (Nat.le_refl _) _⟩
  case round =>
    obtain ⟨rfl, hb⟩ := hrel
    go_wp2
    go_ret
    exact ⟨rfl, hb⟩

/-- ref.DiagramMay. -/
theorem may17_any (v : Value) (C : List Cr) (loops : Int) (w : World) (h : Crs w w.heap.size v C) :
    Calls Try.prog 34 #[.agg #[v, .int .i64 loops]] w fun e w' => e = .returned (.bool (mayD C loops)) ∧ Below w.heap.size w w' := by
  cases hs : sizeB C loops with
  | false =>
    rw [mayD_size hs]
    exact may17_size v C loops w h hs
  | true =>
    obtain ⟨a, cap, rfl, hn, g⟩ := h
    rcases Nat.eq_zero_or_pos C.length with h0 | h0
    · have e0 : C = [] := List.length_eq_zero_iff.1 h0
      subst e0
      have hz := sizeB_iff hs
      have e : mayD [] loops = true := mayD_yes hs (fun j h1 h2 => by simp at h2; omega)
      rw [e]
      have h1 : 1 ≤ loops := by
        rcases Int.lt_or_le 0 loops with h | h
        · omega
        · exact absurd ⟨rfl, by omega⟩ hz.2.2.2
      exact may17_none a cap loops w h1 hz.2.2.1
    · obtain ⟨b, off, rfl, hlt, hC⟩ := g h0
      exact may17_some b off cap C loops w hs h0 hlt hC

theorem infoSpot : (Try.prog.info? 90).map (fun i => (i.zero, i.size, i.bytes)) = some (some (.agg #[.int .i64 0, .int .i64 0]), 2, 16) := by kernel_rfl

set_option maxHeartbeats 2000000 in
set_option maxRecDepth 100000 in
theorem unknown_any (n : Nat) (w : World) (hn : n ≤ 40) :
    Calls Try.prog 55 #[.int .i64 n] w fun e w' => ∃ v, e = .returned v ∧ w'.ownsRow w.heap.size 90 2 v n (flat (List.replicate n (-1, 0))) ∧ Below w.heap.size w w' := by
  obtain ⟨i0, hi, hz0, hz1, hz2⟩ := info_parts infoSpot
  go_enter Try.func55, Try.ntmps55
  go_wp2_with (first | (at_make; refine wpList_make_full _ rfl _ _ 37 rfl w.heap.size 90 i0 (.agg #[.int .i64 0, .int .i64 0]) 2 Try.underlying37 hi hz0 hz1 .i64 .i64 _ _ n rfl rfl rfl rfl (by rw [hz2]; omega) (by unfold maxLen; omega) (Nat.le_refl _) ?_; intro w1 hrow hg1; refine Hid.out ?_))
  refine Lib.hid ?_
  have hz : (madeCells (Value.agg #[.int .i64 0, .int .i64 0]).cells (n * 2)).toList = flat (unkTo n 0) := by
    have e : (Value.agg #[.int .i64 0, .int .i64 0]).cells = #[Value.int .i64 0, .int .i64 0] := rfl
    rw [e, flat_zeros]
    simp [unkTo]
  rw [hz] at hrow
  have HB1 : Hid (Below w.heap.size w w1) := (Below.refl _ _).grown hg1 (Nat.le_refl _) (fun j hj => by cases hj)
  clear hz hg1
  go_wp2
  go_loopw [9] (fun v9 wr => ∃ i : Nat, i ≤ n ∧ v9 = .int .i64 i ∧ wr.ownsRow w.heap.size 90 2 (.slice (some ⟨w.heap.size, 0, none⟩) n n) n (flat (unkTo n i)) ∧ Below w.heap.size w wr) (fun v9 _ => n - (intOf v9).toNat)
  case atStart => exact ⟨0, Nat.zero_le _, rfl, hrow, HB1.out⟩
  case round =>
    clear hrow
    obtain ⟨i, hin, rfl, hown, hb⟩ := hrel
    have hlow := (hown.lt w.heap.size rfl).2
    by_cases hil : i < n
    · have hul : (unkTo n i).length = n := by simp [unkTo]; omega
      have f0 := hown.frozenAt (i * 2)
      have c0 : wr.cell? ⟨w.heap.size, i * 2, none⟩ = some (.int .i64 ((unkTo n i).getD i (0, 0)).1) := by rw [hown.cellAt (i * 2) (by omega)]; exact flat_cellE _ i (by omega)
      have hst := hown.stored (i * 2) (.int .i64 (-1))
      rw [flat_setE _ i (-1) (by omega), unk_next n i hil] at hst
      have HST : Hid ((wr.setCell ⟨w.heap.size, i * 2, none⟩ (.int .i64 (-1))).ownsRow w.heap.size 90 2 (.slice (some ⟨w.heap.size, 0, none⟩) n n) n (flat (unkTo n (i + 1)))) := hst.1
      have HBB : Hid (Below w.heap.size w (wr.setCell ⟨w.heap.size, i * 2, none⟩ (.int .i64 (-1)))) := hb.grown hst.2 hb.size (fun j hj => by cases hj; exact Nat.le_refl _)
      generalize ((unkTo n i).getD i (0, 0)).1 = u at c0
      clear hst hown
      go_wp2
      go_roundw
      case rel => exact ⟨i + 1, by omega, by go_num, HST.out, HBB.out⟩
      case measure => simp only [intOf]; omega
    · obtain rfl : i = n := by omega
      go_wp2
      go_ret
      exact ⟨_, rfl, by have e : unkTo i i = List.replicate i (-1, 0) := by simp [unkTo]
                        rw [← e]; exact hown, hb⟩
end Go.Proofs.Ytlcogbcpmneknaa
/- A diagram may be just if no arc stands twice where strands come in, nor where they go out, and none is out of range. Plain mathematics: no program is named here. -/
namespace Go.Proofs.Ytlcogbcpmneknaa

/-- At how many of the first k sides a stands, coming in (p) or going out. -/
def sd (x : Cr) (a : Int) (p : Bool) : Nat → Nat
  | 0 => 0
  | k + 1 => sd x a p k + (if x.arc k = a ∧ x.comes k = p then 1 else 0)
def sdTo (C : List Cr) (a : Int) (p : Bool) : Nat → Nat
  | 0 => 0
  | i + 1 => sdTo C a p i + sd (C.getD i Cr.none) a p 4
theorem sd_in (x : Cr) (a : Int) (k : Nat) : sd x a true k = sideIn x a k := by
  induction k with
  | zero => rfl
  | succ k ih => simp only [sd, sideIn, ih]
theorem sd_out (x : Cr) (a : Int) (k : Nat) : sd x a false k = sideOut x a k := by
  induction k with
  | zero => rfl
  | succ k ih => simp only [sd, sideOut, ih]
theorem sdTo_in (C : List Cr) (a : Int) (i : Nat) : sdTo C a true i = inTo C a i := by
  induction i with
  | zero => rfl
  | succ i ih => simp only [sdTo, inTo, ih, sd_in]
theorem sdTo_out (C : List Cr) (a : Int) (i : Nat) : sdTo C a false i = outTo C a i := by
  induction i with
  | zero => rfl
  | succ i ih => simp only [sdTo, outTo, ih, sd_out]

/-- The sum over the numbers from 1 to m. -/
def sumA (f : Nat → Nat) : Nat → Nat
  | 0 => 0
  | m + 1 => sumA f m + f (m + 1)
theorem sumA_add (f g : Nat → Nat) (m : Nat) : sumA (fun a => f a + g a) m = sumA f m + sumA g m := by
  induction m with
  | zero => rfl
  | succ m ih => simp only [sumA, ih]; omega
theorem sumA_congr {f g : Nat → Nat} (m : Nat) (h : ∀ a, 1 ≤ a → a ≤ m → f a = g a) : sumA f m = sumA g m := by
  induction m with
  | zero => rfl
  | succ m ih => simp only [sumA]; rw [ih fun a h1 h2 => h a h1 (by omega), h (m + 1) (by omega) (Nat.le_refl _)]
theorem sumA_zero (m : Nat) : sumA (fun _ => 0) m = 0 := by
  induction m with
  | zero => rfl
  | succ m ih => simp only [sumA, ih]
theorem sumA_one (m : Nat) : sumA (fun _ => 1) m = m := by
  induction m with
  | zero => rfl
  | succ m ih => simp only [sumA, ih]
theorem sumA_at (v : Int) (m : Nat) : sumA (fun a => if v = (a : Int) then 1 else 0) m = if 1 ≤ v ∧ v ≤ m then 1 else 0 := by
  induction m with
  | zero => simp only [sumA]; rw [if_neg (by omega)]
  | succ m ih =>
    simp only [sumA, ih]
    by_cases h1 : 1 ≤ v ∧ v ≤ m
    · rw [if_pos h1, if_neg (by omega), if_pos (by omega)]
    · rw [if_neg h1]
      by_cases h2 : v = ((m + 1 : Nat) : Int)
      · rw [if_pos h2, if_pos (by omega)]
      · rw [if_neg h2, if_neg (by omega)]
theorem sumA_all {f : Nat → Nat} {m : Nat} (h1 : ∀ a, 1 ≤ a → a ≤ m → f a ≤ 1) (hs : sumA f m = m) : ∀ a, 1 ≤ a → a ≤ m → f a = 1 := by
  have hle : ∀ k, k ≤ m → sumA f k ≤ k := by
    intro k
    induction k with
    | zero => intro _; exact Nat.le_refl _
    | succ k ih =>
      intro hk
      have := ih (by omega)
      have := h1 (k + 1) (by omega) hk
      simp only [sumA]
      omega
  induction m with
  | zero => intro a h2 h3; omega
  | succ m ih =>
    have hm := hle m (by omega)
    have hl := h1 (m + 1) (by omega) (Nat.le_refl _)
    simp only [sumA] at hs
    intro a h2 h3
    by_cases e : a = m + 1
    · rw [e]; omega
    · exact ih (fun b hb1 hb2 => h1 b hb1 (by omega)) (by omega) (fun k hk => hle k (by omega)) a h2 (by omega)

/-- How many of the first k sides come in (p), or go out. -/
def cnt (x : Cr) (p : Bool) : Nat → Nat
  | 0 => 0
  | k + 1 => cnt x p k + (if x.comes k = p then 1 else 0)
theorem cnt_four (x : Cr) (p : Bool) : cnt x p 4 = 2 := by
  obtain ⟨a, b, c, d, q⟩ := x
  cases p <;> cases q <;> rfl
/-- How many of them are in range. -/
def rng (x : Cr) (p : Bool) (m : Nat) : Nat → Nat
  | 0 => 0
  | k + 1 => rng x p m k + (if x.comes k = p ∧ 1 ≤ x.arc k ∧ x.arc k ≤ m then 1 else 0)
def rngTo (C : List Cr) (p : Bool) (m : Nat) : Nat → Nat
  | 0 => 0
  | i + 1 => rngTo C p m i + rng (C.getD i Cr.none) p m 4
theorem sum_sd (x : Cr) (p : Bool) (m k : Nat) : sumA (fun a => sd x a p k) m = rng x p m k := by
  induction k with
  | zero => exact sumA_zero m
  | succ k ih =>
    simp only [sd, rng, sumA_add, ih]
    congr 1
    by_cases h : x.comes k = p
    · rw [sumA_congr m (g := fun a => if x.arc k = (a : Int) then 1 else 0) (fun a _ _ => by simp [h]), sumA_at]
      simp [h]
    · rw [sumA_congr m (g := fun _ => 0) (fun a _ _ => by simp [h]), sumA_zero, if_neg (fun e => h e.1)]
theorem sum_sdTo (C : List Cr) (p : Bool) (m i : Nat) : sumA (fun a => sdTo C a p i) m = rngTo C p m i := by
  induction i with
  | zero => exact sumA_zero m
  | succ i ih => simp only [sdTo, rngTo, sumA_add, ih, sum_sd]
theorem rng_le (x : Cr) (p : Bool) (m k : Nat) : rng x p m k ≤ cnt x p k := by
  induction k with
  | zero => exact Nat.le_refl _
  | succ k ih =>
    simp only [rng, cnt]
    by_cases h : x.comes k = p
    · rw [if_pos h]; split <;> omega
    · rw [if_neg h, if_neg (fun e => h e.1)]; omega
theorem rng_lt (x : Cr) (p : Bool) (m k j : Nat) (hj : j < k) (hc : x.comes j = p) (ho : ¬(1 ≤ x.arc j ∧ x.arc j ≤ m)) : rng x p m k < cnt x p k := by
  induction k with
  | zero => omega
  | succ k ih =>
    simp only [rng, cnt]
    by_cases e : j = k
    · subst e
      have := rng_le x p m j
      rw [if_pos hc, if_neg (fun e => ho e.2)]
      omega
    · have := ih (by omega)
      by_cases h : x.comes k = p
      · rw [if_pos h]; split <;> omega
      · rw [if_neg h, if_neg (fun e => h e.1)]; omega
theorem rng_all (x : Cr) (p : Bool) (m k : Nat) (h : ∀ j, j < k → x.comes j = p → 1 ≤ x.arc j ∧ x.arc j ≤ m) : rng x p m k = cnt x p k := by
  induction k with
  | zero => rfl
  | succ k ih =>
    simp only [rng, cnt]
    rw [ih fun j hj => h j (by omega)]
    by_cases hc : x.comes k = p
    · rw [if_pos hc, if_pos ⟨hc, h k (by omega) hc⟩]
    · rw [if_neg hc, if_neg (fun e => hc e.1)]
theorem rngTo_le (C : List Cr) (p : Bool) (m i : Nat) : rngTo C p m i ≤ 2 * i := by
  induction i with
  | zero => exact Nat.le_refl _
  | succ i ih =>
    have := rng_le (C.getD i Cr.none) p m 4
    rw [cnt_four] at this
    simp only [rngTo]
    omega
theorem rngTo_lt (C : List Cr) (p : Bool) (m n i k : Nat) (hi : i < n) (hk : k < 4) (hc : (C.getD i Cr.none).comes k = p) (ho : ¬(1 ≤ (C.getD i Cr.none).arc k ∧ (C.getD i Cr.none).arc k ≤ m)) : rngTo C p m n < 2 * n := by
  induction n with
  | zero => omega
  | succ n ih =>
    simp only [rngTo]
    by_cases e : i = n
    · subst e
      have h1 := rng_lt (C.getD i Cr.none) p m 4 k hk hc ho
      have h2 := rngTo_le C p m i
      rw [cnt_four] at h1
      omega
    · have h1 := ih (by omega)
      have h2 := rng_le (C.getD n Cr.none) p m 4
      rw [cnt_four] at h2
      omega
theorem rngTo_all (C : List Cr) (p : Bool) (m n : Nat) (h : ∀ i k, i < n → k < 4 → (C.getD i Cr.none).comes k = p → 1 ≤ (C.getD i Cr.none).arc k ∧ (C.getD i Cr.none).arc k ≤ m) : rngTo C p m n = 2 * n := by
  induction n with
  | zero => rfl
  | succ n ih =>
    simp only [rngTo]
    rw [ih fun i k hi => h i k (by omega), rng_all _ p m 4 (fun j hj hc => h n j (by omega) hj hc), cnt_four]
    omega

/-- How often a stood, coming in or going out, ahead of side k of crossing i. -/
def ahd (C : List Cr) (a : Int) (p : Bool) (i k : Nat) : Nat := sdTo C a p i + sd (C.getD i Cr.none) a p k
theorem ahd_next (C : List Cr) (a : Int) (p : Bool) (i k : Nat) : ahd C a p i (k + 1) = ahd C a p i k + (if (C.getD i Cr.none).arc k = a ∧ (C.getD i Cr.none).comes k = p then 1 else 0) := by
  simp only [ahd, sd]; omega
theorem sd_mono (x : Cr) (a : Int) (p : Bool) (j k : Nat) (h : j ≤ k) : sd x a p j ≤ sd x a p k := by
  induction k with
  | zero => obtain rfl : j = 0 := by omega
            exact Nat.le_refl _
  | succ k ih =>
    by_cases e : j = k + 1
    · subst e; exact Nat.le_refl _
    · have := ih (by omega)
      simp only [sd]
      omega
theorem sdTo_mono (C : List Cr) (a : Int) (p : Bool) (i n : Nat) (h : i ≤ n) : sdTo C a p i ≤ sdTo C a p n := by
  induction n with
  | zero => obtain rfl : i = 0 := by omega
            exact Nat.le_refl _
  | succ n ih =>
    by_cases e : i = n + 1
    · subst e; exact Nat.le_refl _
    · have := ih (by omega)
      simp only [sdTo]
      omega
theorem ahd_le (C : List Cr) (a : Int) (p : Bool) (i k n : Nat) (hi : i < n) (hk : k ≤ 4) : ahd C a p i k ≤ sdTo C a p n := by
  have h1 := sd_mono (C.getD i Cr.none) a p k 4 hk
  have h2 := sdTo_mono C a p (i + 1) n (by omega)
  simp only [sdTo] at h2
  simp only [ahd]
  omega

/-- Side k of crossing i is in order: its arc is in range, and has not stood on that side before. -/
def fit (C : List Cr) (i k : Nat) : Prop := 1 ≤ (C.getD i Cr.none).arc k ∧ (C.getD i Cr.none).arc k ≤ 2 * (C.length : Int) ∧ ahd C ((C.getD i Cr.none).arc k) ((C.getD i Cr.none).comes k) i k = 0

theorem once_sd {C : List Cr} {a : Nat} (h : onceB C a = true) (p : Bool) : sdTo C a p C.length = 1 := by
  simp only [onceB, Bool.and_eq_true, decide_eq_true_eq] at h
  cases p
  · rw [sdTo_out]; exact h.2
  · rw [sdTo_in]; exact h.1
theorem may_once {C : List Cr} {loops : Int} (h : mayD C loops = true) (a : Nat) (h1 : 1 ≤ a) (h2 : a ≤ 2 * C.length) : onceB C a = true := by
  cases ho : onceB C a with
  | true => rfl
  | false => rw [mayD_no h1 h2 ho] at h; cases h

/-- Where a side is not in order the diagram may not be. -/
theorem unfit_no {C : List Cr} {loops : Int} {i k : Nat} (hi : i < C.length) (hk : k < 4) (h : ¬fit C i k) : mayD C loops = false := by
  cases hm : mayD C loops with
  | false => rfl
  | true =>
    exfalso
    by_cases hr : 1 ≤ (C.getD i Cr.none).arc k ∧ (C.getD i Cr.none).arc k ≤ 2 * (C.length : Int)
    · obtain ⟨a, ha⟩ : ∃ a : Nat, (C.getD i Cr.none).arc k = (a : Int) := ⟨((C.getD i Cr.none).arc k).toNat, by omega⟩
      have h1 := once_sd (may_once hm a (by omega) (by omega)) ((C.getD i Cr.none).comes k)
      have h2 := ahd_le C a ((C.getD i Cr.none).comes k) i (k + 1) C.length hi (by omega)
      rw [ahd_next, if_pos ⟨ha, rfl⟩] at h2
      refine h ⟨hr.1, hr.2, ?_⟩
      rw [ha]
      omega
    · have h1 := rngTo_lt C ((C.getD i Cr.none).comes k) (2 * C.length) C.length i k hi hk rfl (by omega)
      rw [← sum_sdTo, sumA_congr (2 * C.length) (g := fun _ => 1) (fun a h2 h3 => once_sd (may_once hm a h2 h3) _), sumA_one] at h1
      omega
/-- Where all sides are in order the diagram may be. -/
theorem fit_yes {C : List Cr} {loops : Int} (hs : sizeB C loops = true) (h : ∀ i k, i < C.length → k < 4 → fit C i k) : mayD C loops = true := by
  have key : ∀ p, ∀ a : Nat, 1 ≤ a → a ≤ 2 * C.length → sdTo C a p C.length = 1 := by
    intro p
    refine sumA_all (f := fun a => sdTo C a p C.length) ?_ ?_
    · intro a h1 h2
      have hrow : ∀ i, i ≤ C.length → sdTo C a p i ≤ 1 := by
        intro i
        induction i with
        | zero => intro _; exact Nat.zero_le _
        | succ i ih =>
          intro hi
          have ih := ih (by omega)
          have hcol : ∀ k, k ≤ 4 → ahd C a p i k ≤ 1 := by
            intro k
            induction k with
            | zero => intro _; exact ih
            | succ k ihk =>
              intro hk
              have ihk := ihk (by omega)
              rw [ahd_next]
              split
              · next e =>
                have hf := (h i k (by omega) (by omega)).2.2
                rw [e.1, e.2] at hf
                omega
              · omega
          have := hcol 4 (Nat.le_refl _)
          exact this
      exact hrow C.length (Nat.le_refl _)
    · rw [sum_sdTo]
      exact rngTo_all C p _ C.length fun i k hi hk _ => by
        have := h i k hi hk
        exact ⟨this.1, by have := this.2.1; omega⟩
  refine mayD_yes hs fun a h1 h2 => ?_
  simp only [onceB, Bool.and_eq_true, decide_eq_true_eq]
  exact ⟨by rw [← sdTo_in]; exact key true a h1 h2, by rw [← sdTo_out]; exact key false a h1 h2⟩
end Go.Proofs.Ytlcogbcpmneknaa
/- The walk of drawing.Of. -/
namespace Go.Proofs.Ytlcogbcpmneknaa
open Go.RowKit

/-- No drawing at all. -/
def noDrawing : Value := .agg #[.slice none 0 0, .int .i64 0, .slice none 0 0, .slice none 0 0]

set_option maxHeartbeats 4000000 in
set_option maxRecDepth 100000 in
theorem of_size (v : Value) (C : List Cr) (loops : Int) (w : World) (h : Crs w w.heap.size v C) (hs : sizeB C loops = false) :
    Calls Try.prog 48 #[.agg #[v, .int .i64 loops]] w fun e w' => e = .returned (.tuple #[noDrawing, .bool false]) ∧ Below w.heap.size w w' := by
  obtain ⟨a, cap, rfl, hn, _⟩ := h
  have hn' : C.length ≤ 9223372036854775807 := hn
  by_cases h1 : 16 < C.length
  · have d1 : decide (16 < (C.length : Int)) = true := by simp; omega
    have d2 : decide (16 < C.length) = true := by simp; omega
    go_enter Try.func48, Try.ntmps48
    go_wp2
    exact bodyPost_ret (v := .tuple #[noDrawing, .bool false]) (by simp [results, Try.results48, go_sem, noDrawing]) rfl ⟨rfl, below2 _ _ _⟩
  · by_cases h2 : loops < 0
    · have d2 : decide (loops < 0) = true := by simpa using h2
      go_enter Try.func48, Try.ntmps48
      go_wp2
      exact bodyPost_ret (v := .tuple #[noDrawing, .bool false]) (by simp [results, Try.results48, go_sem, noDrawing]) rfl ⟨rfl, below2 _ _ _⟩
    · by_cases h3 : 16 < loops
      · have d3 : decide (16 < loops) = true := by simpa using h3
        go_enter Try.func48, Try.ntmps48
        go_wp2
        exact bodyPost_ret (v := .tuple #[noDrawing, .bool false]) (by simp [results, Try.results48, go_sem, noDrawing]) rfl ⟨rfl, below2 _ _ _⟩
      · have h4 : C.length = 0 ∧ loops = 0 := by
          simp only [sizeB, Bool.and_eq_false_iff, decide_eq_false_iff_not, Bool.not_eq_false', Bool.and_eq_true, decide_eq_true_eq] at hs
          omega
        obtain ⟨h4, rfl⟩ := h4
        rw [h4]
        go_enter Try.func48, Try.ntmps48
        go_wp2
        exact bodyPost_ret (v := .tuple #[noDrawing, .bool false]) (by simp [results, Try.results48, go_sem, noDrawing]) rfl ⟨rfl, below2 _ _ _⟩

end Go.Proofs.Ytlcogbcpmneknaa
/- Where arcs begin and end; walks along strands; Dowker's numbers. Plain mathematics: no program is named here. -/
namespace Go.Proofs.Ytlcogbcpmneknaa

/-- The spot at which a stood last, coming in (p) or going out, among the first k sides of crossing i; z, if it did not. -/
def sideEnd (x : Cr) (i : Nat) (a : Int) (p : Bool) (z : Int × Int) : Nat → Int × Int
  | 0 => z
  | k + 1 => if x.arc k = a ∧ x.comes k = p then ((i : Int), (k : Int)) else sideEnd x i a p z k
def endTo (C : List Cr) (a : Int) (p : Bool) : Nat → Int × Int
  | 0 => (-1, 0)
  | i + 1 => sideEnd (C.getD i Cr.none) i a p (endTo C a p i) 4
/-- The spot at which a stood last ahead of side k of crossing i. -/
def endAh (C : List Cr) (a : Int) (p : Bool) (i k : Nat) : Int × Int := sideEnd (C.getD i Cr.none) i a p (endTo C a p i) k
theorem endAh_next (C : List Cr) (a : Int) (p : Bool) (i k : Nat) : endAh C a p i (k + 1) = if (C.getD i Cr.none).arc k = a ∧ (C.getD i Cr.none).comes k = p then ((i : Int), (k : Int)) else endAh C a p i k := rfl
theorem sideEnd_cases (x : Cr) (i : Nat) (a : Int) (p : Bool) (z : Int × Int) (k : Nat) : (sd x a p k = 0 ∧ sideEnd x i a p z k = z) ∨ (0 < sd x a p k ∧ ∃ j, j < k ∧ x.arc j = a ∧ x.comes j = p ∧ sideEnd x i a p z k = ((i : Int), (j : Int))) := by
  induction k with
  | zero => exact Or.inl ⟨rfl, rfl⟩
  | succ k ih =>
    by_cases h : x.arc k = a ∧ x.comes k = p
    · refine Or.inr ⟨?_, k, by omega, h.1, h.2, ?_⟩
      · simp only [sd]; rw [if_pos h]; omega
      · simp only [sideEnd]; rw [if_pos h]
    · have e1 : sd x a p (k + 1) = sd x a p k := by simp only [sd]; rw [if_neg h]; rfl
      have e2 : sideEnd x i a p z (k + 1) = sideEnd x i a p z k := by simp only [sideEnd]; rw [if_neg h]
      rw [e1, e2]
      rcases ih with ih | ⟨h1, j, h2, h3⟩
      · exact Or.inl ih
      · exact Or.inr ⟨h1, j, by omega, h3⟩
theorem endTo_cases (C : List Cr) (a : Int) (p : Bool) (n : Nat) : (sdTo C a p n = 0 ∧ endTo C a p n = (-1, 0)) ∨ (0 < sdTo C a p n ∧ ∃ i j, i < n ∧ j < 4 ∧ (C.getD i Cr.none).arc j = a ∧ (C.getD i Cr.none).comes j = p ∧ endTo C a p n = ((i : Int), (j : Int))) := by
  induction n with
  | zero => exact Or.inl ⟨rfl, rfl⟩
  | succ n ih =>
    simp only [sdTo, endTo]
    rcases sideEnd_cases (C.getD n Cr.none) n a p (endTo C a p n) 4 with ⟨h1, h2⟩ | ⟨h1, j, h2, h3, h4, h5⟩
    · rw [h1, h2]
      rcases ih with ih | ⟨h1, i, j, h2, h3⟩
      · exact Or.inl ih
      · exact Or.inr ⟨h1, i, j, by omega, h3⟩
    · exact Or.inr ⟨by omega, n, j, by omega, h2, h3, h4, h5⟩
theorem endAh_cases (C : List Cr) (a : Int) (p : Bool) (i k : Nat) (hk : k ≤ 4) : (ahd C a p i k = 0 ∧ endAh C a p i k = (-1, 0)) ∨ (0 < ahd C a p i k ∧ ∃ i' j : Nat, j < 4 ∧ endAh C a p i k = ((i' : Int), (j : Int))) := by
  simp only [ahd, endAh]
  rcases sideEnd_cases (C.getD i Cr.none) i a p (endTo C a p i) k with ⟨h1, h2⟩ | ⟨h1, j, h2, h3, h4, h5⟩
  · rw [h1, h2]
    rcases endTo_cases C a p i with h | ⟨h1, i', j, h2, h3, h4, h5, h6⟩
    · exact Or.inl h
    · exact Or.inr ⟨h1, i', j, h3, h6⟩
  · exact Or.inr ⟨by omega, i, j, by omega, h5⟩
theorem endAh_free (C : List Cr) (a : Int) (p : Bool) (i k : Nat) (hk : k ≤ 4) : (endAh C a p i k).1 = -1 ↔ ahd C a p i k = 0 := by
  rcases endAh_cases C a p i k hk with ⟨h1, h2⟩ | ⟨h1, i', j, h2, h3⟩
  · rw [h1, h2]; simp
  · rw [h3]
    constructor
    · intro h
      have : (i' : Int) = -1 := h
      omega
    · intro h; omega

/-- The spots of the arcs from 0 to 2n. -/
def ends (C : List Cr) (p : Bool) (i k : Nat) : List (Int × Int) := (List.range (2 * C.length + 1)).map fun a => if a = 0 then (-1, 0) else endAh C (a : Nat) p i k
theorem ends_length (C : List Cr) (p : Bool) (i k : Nat) : (ends C p i k).length = 2 * C.length + 1 := by simp [ends]
theorem ends_at (C : List Cr) (p : Bool) (i k a : Nat) (h1 : 1 ≤ a) (h2 : a ≤ 2 * C.length) : (ends C p i k).getD a (0, 0) = endAh C a p i k := by
  unfold ends
  rw [List.getD_eq_getElem?_getD, List.getElem?_map, List.getElem?_range (by omega)]
  simp
  omega
theorem ends_start (C : List Cr) (p : Bool) : ends C p 0 0 = List.replicate (2 * C.length + 1) (-1, 0) := by
  apply List.ext_getElem
  · simp [ends]
  · intro j h1 h2
    simp only [ends, List.getElem_map, List.getElem_range, List.getElem_replicate]
    split <;> rfl
theorem ends_keep (C : List Cr) (p : Bool) (i k : Nat) (h : (C.getD i Cr.none).comes k ≠ p) : ends C p i (k + 1) = ends C p i k := by
  unfold ends
  apply List.map_congr_left
  intro a _
  have e : endAh C (a : Nat) p i (k + 1) = endAh C (a : Nat) p i k := by rw [endAh_next, if_neg (fun e => h e.2)]
  simp only [e]
theorem ends_set (C : List Cr) (p : Bool) (i k a : Nat) (h1 : 1 ≤ a) (hc : (C.getD i Cr.none).comes k = p) (ha : (C.getD i Cr.none).arc k = (a : Int)) : (ends C p i k).set a ((i : Int), (k : Int)) = ends C p i (k + 1) := by
  apply List.ext_getElem
  · simp [ends]
  · intro j h2 h3
    rw [List.getElem_set]
    simp only [ends, List.getElem_map, List.getElem_range]
    by_cases e : a = j
    · subst e
      rw [if_pos rfl, if_neg (by omega), endAh_next, if_pos ⟨ha, hc⟩]
    · have e2 : endAh C (j : Nat) p i (k + 1) = endAh C (j : Nat) p i k := by rw [endAh_next, if_neg (fun h => e (by have := h.1; rw [ha] at this; omega))]
      rw [if_neg e, e2]

/-- Where an arc of a diagram that may be ends (p) or begins: the one side at which it stands so. -/
theorem end_may {C : List Cr} {loops : Int} (hm : mayD C loops = true) (a : Nat) (h1 : 1 ≤ a) (h2 : a ≤ 2 * C.length) (p : Bool) : ∃ i k : Nat, i < C.length ∧ k < 4 ∧ (C.getD i Cr.none).arc k = (a : Int) ∧ (C.getD i Cr.none).comes k = p ∧ endTo C a p C.length = ((i : Int), (k : Int)) := by
  have ho := once_sd (may_once hm a h1 h2) p
  rcases endTo_cases C a p C.length with ⟨h, _⟩ | ⟨_, i, j, h3, h4, h5, h6, h7⟩
  · omega
  · exact ⟨i, j, h3, h4, h5, h6, h7⟩
theorem sd_at (x : Cr) (a : Int) (p : Bool) (k n : Nat) (hk : k < n) (h : x.arc k = a ∧ x.comes k = p) : 0 < sd x a p n := by
  have := sd_mono x a p (k + 1) n (by omega)
  simp only [sd] at this
  rw [if_pos h] at this
  omega
theorem sd_two (x : Cr) (a : Int) (p : Bool) (j k n : Nat) (hj : j < k) (hk : k < n) (h : x.arc j = a ∧ x.comes j = p) (h2 : x.arc k = a ∧ x.comes k = p) : 2 ≤ sd x a p n := by
  have h3 := sd_at x a p j k hj h
  have := sd_mono x a p (k + 1) n (by omega)
  simp only [sd] at this
  rw [if_pos h2] at this
  omega
/-- It stands so nowhere else. -/
theorem end_one {C : List Cr} {loops : Int} (hm : mayD C loops = true) (a : Nat) (h1 : 1 ≤ a) (h2 : a ≤ 2 * C.length) (p : Bool) (i k : Nat) (hi : i < C.length) (hk : k < 4) (ha : (C.getD i Cr.none).arc k = (a : Int)) (hc : (C.getD i Cr.none).comes k = p) : endTo C a p C.length = ((i : Int), (k : Int)) := by
  have ho := once_sd (may_once hm a h1 h2) p
  obtain ⟨i', k', h3, h4, h5, h6, h7⟩ := end_may hm a h1 h2 p
  rw [h7]
  have row : ∀ u v s t : Nat, u < v → v < C.length → s < 4 → t < 4 → (C.getD u Cr.none).arc s = (a : Int) → (C.getD u Cr.none).comes s = p → (C.getD v Cr.none).arc t = (a : Int) → (C.getD v Cr.none).comes t = p → False := by
    intro u v s t huv hv hs ht e1 e2 e3 e4
    have g1 := sd_at (C.getD u Cr.none) a p s 4 hs ⟨e1, e2⟩
    have g2 := sd_at (C.getD v Cr.none) a p t 4 ht ⟨e3, e4⟩
    have g3 := sdTo_mono C a p (u + 1) v (by omega)
    have g4 := sdTo_mono C a p (v + 1) C.length (by omega)
    simp only [sdTo] at g3 g4
    omega
  have col : ∀ u s t : Nat, s < t → u < C.length → t < 4 → (C.getD u Cr.none).arc s = (a : Int) → (C.getD u Cr.none).comes s = p → (C.getD u Cr.none).arc t = (a : Int) → (C.getD u Cr.none).comes t = p → False := by
    intro u s t hst hu ht e1 e2 e3 e4
    have g2 := sd_two (C.getD u Cr.none) a p s t 4 hst ht ⟨e1, e2⟩ ⟨e3, e4⟩
    have g4 := sdTo_mono C a p (u + 1) C.length (by omega)
    simp only [sdTo] at g4
    omega
  rcases Nat.lt_trichotomy i i' with h | h | h
  · exact (row i i' k k' h h3 hk h4 ha hc h5 h6).elim
  · subst h
    rcases Nat.lt_trichotomy k k' with h | h | h
    · exact (col i k k' h hi h4 ha hc h5 h6).elim
    · subst h; rfl
    · exact (col i k' k h hi hk h5 h6 ha hc).elim
  · exact (row i' i k' k h hi h4 hk h5 h6 ha hc).elim
theorem may_fit {C : List Cr} {loops : Int} (hm : mayD C loops = true) (i k : Nat) (hi : i < C.length) (hk : k < 4) : fit C i k := by
  refine Classical.byContradiction fun h => ?_
  rw [unfit_no hi hk h] at hm
  cases hm
/-- The crossing to which arc a leads, and the side. -/
def toC (C : List Cr) (a : Nat) : Nat := (endTo C a true C.length).1.toNat
def toS (C : List Cr) (a : Nat) : Nat := (endTo C a true C.length).2.toNat
/-- The arc behind it. -/
def nx (C : List Cr) (a : Nat) : Nat := ((C.getD (toC C a) Cr.none).arc ((toS C a + 2) % 4)).toNat
theorem to_may {C : List Cr} {loops : Int} (hm : mayD C loops = true) (a : Nat) (h1 : 1 ≤ a) (h2 : a ≤ 2 * C.length) : endTo C a true C.length = ((toC C a : Int), (toS C a : Int)) ∧ toC C a < C.length ∧ toS C a < 4 ∧ (C.getD (toC C a) Cr.none).arc (toS C a) = (a : Int) ∧ (C.getD (toC C a) Cr.none).comes (toS C a) = true := by
  obtain ⟨i, k, h3, h4, h5, h6, h7⟩ := end_may hm a h1 h2 true
  have e1 : toC C a = i := by unfold toC; rw [h7]; simp
  have e2 : toS C a = k := by unfold toS; rw [h7]; simp
  rw [e1, e2]
  exact ⟨h7, h3, h4, h5, h6⟩
theorem nx_may {C : List Cr} {loops : Int} (hm : mayD C loops = true) (a : Nat) (h1 : 1 ≤ a) (h2 : a ≤ 2 * C.length) : (C.getD (toC C a) Cr.none).arc ((toS C a + 2) % 4) = (nx C a : Int) ∧ 1 ≤ nx C a ∧ nx C a ≤ 2 * C.length := by
  obtain ⟨h3, h4, h5, h6, h7⟩ := to_may hm a h1 h2
  have hf := may_fit hm (toC C a) ((toS C a + 2) % 4) h4 (by omega)
  have g1 := hf.1
  have g2 := hf.2.1
  unfold nx
  omega
/-- Walk on from x as long as no arc was seen: what was walked, and what is seen then. -/
def walkF (f : Nat → Nat) : Nat → List Bool → Nat → List Nat → List Nat × List Bool
  | 0, seen, _, acc => (acc, seen)
  | m + 1, seen, x, acc => if seen.getD x true = true then (acc, seen) else walkF f m (seen.set x true) (f x) (acc ++ [x])
/-- How many were not seen. -/
def unseen (l : List Bool) : Nat := l.countP (fun b => !b)
theorem unseen_set {l : List Bool} {x : Nat} (h : l.getD x true = false) : unseen (l.set x true) + 1 = unseen l := by
  induction l generalizing x with
  | nil => simp at h
  | cons b l ih =>
    cases x with
    | zero =>
      have : b = false := by simpa using h
      subst this
      simp [unseen]
    | succ x =>
      have := ih (x := x) (by simpa using h)
      simp only [unseen, List.set_cons_succ, List.countP_cons] at this ⊢
      omega
theorem unseen_pos {l : List Bool} {x : Nat} (h : l.getD x true = false) : 0 < unseen l := by have := unseen_set h; omega
theorem walkF_seen {f : Nat → Nat} {m : Nat} {seen : List Bool} {x : Nat} {acc : List Nat} (h : seen.getD x true = true) : walkF f m seen x acc = (acc, seen) := by
  cases m with
  | zero => rfl
  | succ m => simp only [walkF]; rw [if_pos h]
theorem walkF_more {f : Nat → Nat} {m : Nat} {seen : List Bool} {x : Nat} {acc : List Nat} (h : seen.getD x true = false) (hm : unseen seen ≤ m) : walkF f m seen x acc = walkF f (m - 1) (seen.set x true) (f x) (acc ++ [x]) ∧ unseen (seen.set x true) ≤ m - 1 := by
  have h2 := unseen_set h
  cases m with
  | zero => omega
  | succ m =>
    simp only [walkF]
    rw [if_neg (by rw [h]; decide)]
    exact ⟨rfl, by omega⟩
/-- The walks behind the arcs from 1 to a: they, and what is seen then. -/
def walksTo (f : Nat → Nat) (n : Nat) : Nat → List (List Nat) × List Bool
  | 0 => ([], List.replicate (n + 1) false)
  | a + 1 => let r := walksTo f n a; let s := walkF f (n + 1) r.2 (a + 1) []; (if s.1 = [] then r.1 else r.1 ++ [s.1], s.2)
def walksM (C : List Cr) : List (List Nat) := (walksTo (nx C) (2 * C.length) (2 * C.length)).1
theorem walkF_len (f : Nat → Nat) (m : Nat) (seen : List Bool) (x : Nat) (acc : List Nat) : (walkF f m seen x acc).2.length = seen.length := by
  induction m generalizing seen x acc with
  | zero => rfl
  | succ m ih =>
    simp only [walkF]
    split
    · rfl
    · rw [ih]; simp
theorem unseen_le (l : List Bool) : unseen l ≤ l.length := List.countP_le_length
theorem walksTo_len (f : Nat → Nat) (n a : Nat) : (walksTo f n a).2.length = n + 1 := by
  induction a with
  | zero => simp [walksTo]
  | succ a ih => simp only [walksTo]; rw [walkF_len, ih]
theorem walkF_mem {f : Nat → Nat} {n : Nat} (hf : ∀ a, 1 ≤ a → a ≤ n → 1 ≤ f a ∧ f a ≤ n) (m : Nat) (seen : List Bool) (x : Nat) (acc : List Nat) (h1 : 1 ≤ x) (h2 : x ≤ n) (ha : ∀ y, y ∈ acc → 1 ≤ y ∧ y ≤ n) : ∀ y, y ∈ (walkF f m seen x acc).1 → 1 ≤ y ∧ y ≤ n := by
  induction m generalizing seen x acc with
  | zero => exact ha
  | succ m ih =>
    simp only [walkF]
    split
    · exact ha
    · refine ih _ _ _ (hf x h1 h2).1 (hf x h1 h2).2 fun y hy => ?_
      rcases List.mem_append.1 hy with hy | hy
      · exact ha y hy
      · rw [List.mem_singleton.1 hy]; exact ⟨h1, h2⟩
theorem walkF_size (f : Nat → Nat) (m : Nat) (seen : List Bool) (x : Nat) (acc : List Nat) : (walkF f m seen x acc).1.length + unseen (walkF f m seen x acc).2 = acc.length + unseen seen := by
  induction m generalizing seen x acc with
  | zero => rfl
  | succ m ih =>
    simp only [walkF]
    split
    · rfl
    · next h =>
      have h' : seen.getD x true = false := by cases hb : seen.getD x true with
        | true => exact absurd hb h
        | false => rfl
      have := unseen_set h'
      rw [ih]
      simp only [List.length_append, List.length_cons, List.length_nil]
      omega
theorem walksTo_mem {f : Nat → Nat} {n : Nat} (hf : ∀ a, 1 ≤ a → a ≤ n → 1 ≤ f a ∧ f a ≤ n) (a : Nat) (ha : a ≤ n) : ∀ l, l ∈ (walksTo f n a).1 → l ≠ [] ∧ l.length ≤ n + 1 ∧ ∀ y, y ∈ l → 1 ≤ y ∧ y ≤ n := by
  induction a with
  | zero => intro l hl; simp [walksTo] at hl
  | succ a ih =>
    intro l hl
    simp only [walksTo] at hl
    split at hl
    · exact ih (by omega) l hl
    · next he =>
      rcases List.mem_append.1 hl with hl | hl
      · exact ih (by omega) l hl
      · rw [List.mem_singleton.1 hl]
        refine ⟨he, ?_, walkF_mem hf _ _ _ _ (by omega) ha fun y hy => by cases hy⟩
        have h1 := walkF_size f (n + 1) (walksTo f n a).2 (a + 1) []
        have h2 := unseen_le (walksTo f n a).2
        rw [walksTo_len] at h2
        simp only [List.length_nil] at h1
        omega
theorem walksTo_count (f : Nat → Nat) (n a : Nat) : (walksTo f n a).1.length ≤ a := by
  induction a with
  | zero => exact Nat.le_refl _
  | succ a ih =>
    simp only [walksTo]
    split
    · omega
    · simp only [List.length_append, List.length_cons, List.length_nil]; omega
theorem nx_closed {C : List Cr} {loops : Int} (hm : mayD C loops = true) : ∀ a, 1 ≤ a → a ≤ 2 * C.length → 1 ≤ nx C a ∧ nx C a ≤ 2 * C.length := fun a h1 h2 => (nx_may hm a h1 h2).2
/-- At how many of the places below m of one parity c stands. -/
def cp (x : Nat → Nat) (c r : Nat) : Nat → Nat
  | 0 => 0
  | m + 1 => cp x c r m + (if x m = c ∧ m % 2 = r then 1 else 0)
/-- No crossing has two odd or two even numbers. -/
def plane (x : Nat → Nat) (n : Nat) : Prop := ∀ i k, i < 2 * n → k < 2 * n → k ≠ i → x k = x i → k % 2 ≠ i % 2
/-- 1: not seen yet. -/
def un (l : List Bool) (y : Nat) : Nat := if l.getD y true = true then 0 else 1
theorem un_set_same {l : List Bool} {x : Nat} : un (l.set x true) x = 0 := by
  unfold un
  rw [if_pos]
  rw [List.getD_eq_getElem?_getD]
  by_cases h : x < l.length
  · simp [h]
  · rw [List.getElem?_eq_none (by simp; omega)]; rfl
theorem un_set_other {l : List Bool} {x y : Nat} (h : x ≠ y) : un (l.set x true) y = un l y := by
  unfold un
  rw [List.getD_eq_getElem?_getD, List.getD_eq_getElem?_getD, List.getElem?_set_ne h]
theorem walkF_count (f : Nat → Nat) (m : Nat) (seen : List Bool) (x : Nat) (acc : List Nat) (y : Nat) : (walkF f m seen x acc).1.count y + un (walkF f m seen x acc).2 y = acc.count y + un seen y := by
  induction m generalizing seen x acc with
  | zero => rfl
  | succ m ih =>
    simp only [walkF]
    split
    · rfl
    · next h =>
      rw [ih, List.count_append]
      by_cases e : x = y
      · subst e
        have e1 : un seen x = 1 := by unfold un; rw [if_neg h]
        rw [un_set_same, e1]
        simp
      · rw [un_set_other e, List.count_cons_of_ne e]
        simp
theorem walkF_keep (f : Nat → Nat) (m : Nat) (seen : List Bool) (x : Nat) (acc : List Nat) (y : Nat) (h : un seen y = 0) : un (walkF f m seen x acc).2 y = 0 := by
  induction m generalizing seen x acc with
  | zero => exact h
  | succ m ih =>
    simp only [walkF]
    split
    · exact h
    · apply ih
      by_cases e : x = y
      · subst e; exact un_set_same
      · rw [un_set_other e]; exact h
theorem walkF_first (f : Nat → Nat) (m : Nat) (seen : List Bool) (x : Nat) (acc : List Nat) : un (walkF f (m + 1) seen x acc).2 x = 0 := by
  simp only [walkF]
  split
  · next h => unfold un; rw [if_pos h]
  · exact walkF_keep f m _ _ _ x un_set_same
theorem walksTo_seen (f : Nat → Nat) (n a : Nat) : ∀ y, 1 ≤ y → y ≤ a → un (walksTo f n a).2 y = 0 := by
  induction a with
  | zero => intro y h1 h2; omega
  | succ a ih =>
    intro y h1 h2
    simp only [walksTo]
    by_cases e : y = a + 1
    · subst e; exact walkF_first f n _ _ _
    · exact walkF_keep f (n + 1) _ _ _ y (ih y h1 (by omega))
theorem walksTo_one (f : Nat → Nat) (n a y : Nat) (_h1 : 1 ≤ y) (h2 : y ≤ n) : (walksTo f n a).1.flatten.count y + un (walksTo f n a).2 y = 1 := by
  induction a with
  | zero =>
    have e : un (walksTo f n 0).2 y = 1 := by
      have e2 : (walksTo f n 0).2.getD y true = false := by
        show (List.replicate (n + 1) false).getD y true = false
        rw [List.getD_eq_getElem?_getD, List.getElem?_replicate, if_pos (by omega)]
        rfl
      unfold un
      rw [e2]
      rfl
    rw [e]
    rfl
  | succ a ih =>
    have hc := walkF_count f (n + 1) (walksTo f n a).2 (a + 1) [] y
    simp only [walksTo]
    split
    · next he =>
      rw [he] at hc
      simp at hc
      omega
    · rw [List.flatten_append, List.count_append]
      simp at hc ⊢
      omega
/-- In all walks each arc stands just once. -/
theorem walks_once (f : Nat → Nat) (n y : Nat) (h1 : 1 ≤ y) (h2 : y ≤ n) : (walksTo f n n).1.flatten.count y = 1 := by
  have e1 := walksTo_one f n n y h1 h2
  have e2 := walksTo_seen f n n y h1 h2
  omega
end Go.Proofs.Ytlcogbcpmneknaa
