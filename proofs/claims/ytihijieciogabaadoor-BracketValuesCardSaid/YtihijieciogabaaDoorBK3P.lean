/- Several texts of the proof, one behind the other. -/
import Derived.Test.YtihijieciogabaaDoorBK2P
import Derived.Test.YtihijieciogabaaDoorH3P
import Derived.Test.YtihijieciogabaaDoorW2P
import Derived.Test.YtihijieciogabaaDoorH7
/- Plain mathematics of the bracket: what a state ties, crossing by crossing; the rings with one arc cut. -/
namespace Go.Proofs.YtihijieciogabaaDoor

/-- The arc at a side, by its number; and with the first one cut. -/
def arN (C : List Cr) (k s : Nat) : Nat := ((C.getD k Cr.none).arc s).toNat
def arQ (C : List Cr) (k s : Nat) : Nat := if k = 0 ∧ s = 0 then 25 else arN C k s
/-- The pairs that a state ties, one behind the other. -/
def prS (ar : Nat → Nat → Nat) (s i : Nat) : Nat × Nat :=
  if s / 2 ^ (i / 2) % 2 = 1 then (if i % 2 = 0 then (ar (i / 2) 0, ar (i / 2) 1) else (ar (i / 2) 2, ar (i / 2) 3))
  else (if i % 2 = 0 then (ar (i / 2) 1, ar (i / 2) 2) else (ar (i / 2) 3, ar (i / 2) 0))
def in4 (ar : Nat → Nat → Nat) (v k : Nat) : Nat := (if ar k 0 = v then 1 else 0) + (if ar k 1 = v then 1 else 0) + (if ar k 2 = v then 1 else 0) + (if ar k 3 = v then 1 else 0)
def oc (ar : Nat → Nat → Nat) (v : Nat) : Nat → Nat
  | 0 => 0
  | k + 1 => oc ar v k + in4 ar v k
theorem pr_lo (ar : Nat → Nat → Nat) (s k : Nat) : prS ar s (2 * k) = if s / 2 ^ k % 2 = 1 then (ar k 0, ar k 1) else (ar k 1, ar k 2) := by
  unfold prS
  rw [show 2 * k / 2 = k by omega, show 2 * k % 2 = 0 by omega]; rfl
theorem pr_hi (ar : Nat → Nat → Nat) (s k : Nat) : prS ar s (2 * k + 1) = if s / 2 ^ k % 2 = 1 then (ar k 2, ar k 3) else (ar k 3, ar k 0) := by
  unfold prS
  rw [show (2 * k + 1) / 2 = k by omega, show (2 * k + 1) % 2 = 1 by omega]; rfl
theorem dg_oc (ar : Nat → Nat → Nat) (s v k : Nat) : dgP (prS ar s) (2 * k) v = oc ar v k := by
  induction k with
  | zero => rfl
  | succ k ih =>
    rw [show 2 * (k + 1) = 2 * k + 1 + 1 by omega]
    show dgm (dgm (dgP (prS ar s) (2 * k)) (prS ar s (2 * k)).1 (prS ar s (2 * k)).2) (prS ar s (2 * k + 1)).1 (prS ar s (2 * k + 1)).2 v = oc ar v k + in4 ar v k
    unfold dgm in4
    rw [ih, pr_lo, pr_hi]
    by_cases h : s / 2 ^ k % 2 = 1
    · simp only [if_pos h]; omega
    · simp only [if_neg h]; omega
theorem oc_mono (ar : Nat → Nat → Nat) (v : Nat) {k m : Nat} (h : k ≤ m) : oc ar v k ≤ oc ar v m := by
  induction h with
  | refl => exact Nat.le_refl _
  | step _ ih => exact Nat.le_trans ih (Nat.le_add_right _ _)
theorem in4_sides {C : List Cr} {k v : Nat} (hf : ∀ s, s < 4 → 1 ≤ (C.getD k Cr.none).arc s) : in4 (arN C) v k = sideIn (C.getD k Cr.none) v 4 + sideOut (C.getD k Cr.none) v 4 := by
  have e : ∀ s, s < 4 → (if arN C k s = v then 1 else 0) = (if (C.getD k Cr.none).arc s = (v : Int) ∧ (C.getD k Cr.none).comes s = true then 1 else 0) + (if (C.getD k Cr.none).arc s = (v : Int) ∧ (C.getD k Cr.none).comes s = false then 1 else 0) := by
    intro s hs
    have h1 := hf s hs
    unfold arN
    by_cases h : ((C.getD k Cr.none).arc s).toNat = v
    · have h2 : (C.getD k Cr.none).arc s = (v : Int) := by omega
      rw [if_pos h]
      cases hc : (C.getD k Cr.none).comes s
      · rw [if_neg (fun e => by simp at e), if_pos ⟨h2, rfl⟩]
      · rw [if_pos ⟨h2, rfl⟩, if_neg (fun e => by simp at e)]
    · have h2 : ¬ (C.getD k Cr.none).arc s = (v : Int) := by omega
      rw [if_neg h, if_neg (fun e => h2 e.1), if_neg (fun e => h2 e.1)]
  unfold in4
  rw [e 0 (by omega), e 1 (by omega), e 2 (by omega), e 3 (by omega)]
  have i4 : sideIn (C.getD k Cr.none) v 4 = 0 + (if (C.getD k Cr.none).arc 0 = (v : Int) ∧ (C.getD k Cr.none).comes 0 = true then 1 else 0) + (if (C.getD k Cr.none).arc 1 = (v : Int) ∧ (C.getD k Cr.none).comes 1 = true then 1 else 0) + (if (C.getD k Cr.none).arc 2 = (v : Int) ∧ (C.getD k Cr.none).comes 2 = true then 1 else 0) + (if (C.getD k Cr.none).arc 3 = (v : Int) ∧ (C.getD k Cr.none).comes 3 = true then 1 else 0) := rfl
  have o4 : sideOut (C.getD k Cr.none) v 4 = 0 + (if (C.getD k Cr.none).arc 0 = (v : Int) ∧ (C.getD k Cr.none).comes 0 = false then 1 else 0) + (if (C.getD k Cr.none).arc 1 = (v : Int) ∧ (C.getD k Cr.none).comes 1 = false then 1 else 0) + (if (C.getD k Cr.none).arc 2 = (v : Int) ∧ (C.getD k Cr.none).comes 2 = false then 1 else 0) + (if (C.getD k Cr.none).arc 3 = (v : Int) ∧ (C.getD k Cr.none).comes 3 = false then 1 else 0) := rfl
  rw [i4, o4]
  omega
theorem oc_in {C : List Cr} {v : Nat} : ∀ k, (∀ i, i < k → ∀ s, s < 4 → 1 ≤ (C.getD i Cr.none).arc s) → oc (arN C) v k = inTo C v k + outTo C v k
  | 0, _ => rfl
  | k + 1, h => by
    show oc (arN C) v k + in4 (arN C) v k = (inTo C v k + sideIn _ v 4) + (outTo C v k + sideOut _ v 4)
    rw [oc_in k (fun i hi => h i (by omega)), in4_sides (h k (by omega))]; omega
theorem ar_range {C : List Cr} {loops : Int} (hm : mayD C loops = true) {k s : Nat} (hk : k < C.length) (hs : s < 4) : 1 ≤ (C.getD k Cr.none).arc s ∧ (C.getD k Cr.none).arc s ≤ 2 * C.length ∧ 1 ≤ arN C k s ∧ arN C k s ≤ 2 * C.length := by
  have h := may_fit hm k s hk hs
  have h1 := h.1
  have h2 := h.2.1
  unfold arN
  omega
theorem oc_two {C : List Cr} {loops : Int} (hm : mayD C loops = true) {v : Nat} (h1 : 1 ≤ v) (h2 : v ≤ 2 * C.length) : oc (arN C) v C.length = 2 := by
  rw [oc_in C.length (fun i hi s hs => (ar_range hm hi hs).1)]
  have h := hm
  unfold mayD at h
  rw [Bool.and_eq_true, List.all_eq_true] at h
  have h3 := h.2 (v - 1) (List.mem_range.2 (by omega))
  rw [show v - 1 + 1 = v by omega] at h3
  unfold onceB at h3
  rw [Bool.and_eq_true, decide_eq_true_eq, decide_eq_true_eq] at h3
  omega
theorem oc_none {C : List Cr} {loops : Int} (hm : mayD C loops = true) {v : Nat} (h : v = 0 ∨ 2 * C.length < v) : ∀ k, k ≤ C.length → oc (arN C) v k = 0
  | 0, _ => rfl
  | k + 1, hk => by
    show oc (arN C) v k + in4 (arN C) v k = 0
    rw [oc_none hm h k (by omega)]
    have a0 := ar_range hm (k := k) (by omega) (s := 0) (by omega)
    have a1 := ar_range hm (k := k) (by omega) (s := 1) (by omega)
    have a2 := ar_range hm (k := k) (by omega) (s := 2) (by omega)
    have a3 := ar_range hm (k := k) (by omega) (s := 3) (by omega)
    unfold in4
    rw [if_neg (by omega), if_neg (by omega), if_neg (by omega), if_neg (by omega)]
/-- With the first arc cut: one fewer there, one at 25. -/
theorem oc_cut (C : List Cr) (v : Nat) : ∀ k, oc (arQ C) v (k + 1) + (if arN C 0 0 = v then 1 else 0) = oc (arN C) v (k + 1) + (if 25 = v then 1 else 0)
  | 0 => by
    show 0 + in4 (arQ C) v 0 + _ = 0 + in4 (arN C) v 0 + _
    unfold in4
    rw [show arQ C 0 0 = 25 from rfl, show arQ C 0 1 = arN C 0 1 from rfl, show arQ C 0 2 = arN C 0 2 from rfl, show arQ C 0 3 = arN C 0 3 from rfl]
    omega
  | k + 1 => by
    have := oc_cut C v k
    have e : in4 (arQ C) v (k + 1) = in4 (arN C) v (k + 1) := by
      unfold in4 arQ
      simp only [Nat.succ_ne_zero, false_and, if_false]
    show oc (arQ C) v (k + 1) + in4 (arQ C) v (k + 1) + _ = oc (arN C) v (k + 1) + in4 (arN C) v (k + 1) + _
    rw [e]; omega
theorem pr_cut {C : List Cr} {loops : Int} (hm : mayD C loops = true) (h12 : C.length ≤ 12) (s i : Nat) (hi : i < 2 * C.length) : (prS (arN C) s i).1 = sg (arN C 0 0) (prS (arQ C) s i).1 ∧ (prS (arN C) s i).2 = sg (arN C 0 0) (prS (arQ C) s i).2 := by
  have e : ∀ k t, k < C.length → t < 4 → arN C k t = sg (arN C 0 0) (arQ C k t) := by
    intro k t hk ht
    have a := ar_range hm hk ht
    unfold arQ sg
    by_cases h : k = 0 ∧ t = 0
    · rw [if_pos h, if_pos rfl, h.1, h.2]
    · rw [if_neg h, if_neg (by omega)]
  unfold prS
  have hk : i / 2 < C.length := by omega
  split <;> split <;> exact ⟨e _ _ hk (by omega), e _ _ hk (by omega)⟩
theorem pr_range {C : List Cr} {loops : Int} (hm : mayD C loops = true) (h12 : C.length ≤ 12) (s i : Nat) (hi : i < 2 * C.length) : 1 ≤ (prS (arQ C) s i).1 ∧ (prS (arQ C) s i).1 < 26 ∧ 1 ≤ (prS (arQ C) s i).2 ∧ (prS (arQ C) s i).2 < 26 := by
  have e : ∀ k t, k < C.length → t < 4 → 1 ≤ arQ C k t ∧ arQ C k t < 26 := by
    intro k t hk ht
    have a := ar_range hm hk ht
    unfold arQ
    split <;> omega
  unfold prS
  have hk : i / 2 < C.length := by omega
  split <;> split <;> exact ⟨(e _ _ hk (by omega)).1, (e _ _ hk (by omega)).2, (e _ _ hk (by omega)).1, (e _ _ hk (by omega)).2⟩
theorem oc_le {C : List Cr} {loops : Int} (hm : mayD C loops = true) (h12 : C.length ≤ 12) (h0 : 0 < C.length) (v : Nat) : oc (arQ C) v C.length ≤ 2 := by
  obtain ⟨n, hn⟩ : ∃ n, C.length = n + 1 := ⟨C.length - 1, by omega⟩
  have h := oc_cut C v n
  rw [← hn] at h
  have a := ar_range hm h0 (s := 0) (by omega)
  by_cases hv : 1 ≤ v ∧ v ≤ 2 * C.length
  · rw [oc_two hm hv.1 hv.2, if_neg (by omega : ¬ 25 = v)] at h; omega
  · rw [oc_none hm (by omega) C.length (Nat.le_refl _)] at h
    split at h <;> split at h <;> omega
theorem tied_state {C : List Cr} {loops : Int} (hm : mayD C loops = true) (h12 : C.length ≤ 12) (h0 : 0 < C.length) (s i : Nat) (hi : i ≤ 2 * C.length) : Tied (tieP (prS (arQ C) s) i) (dgP (prS (arQ C) s) i) (labP (prS (arQ C) s) i) ∧ closP (prS (arQ C) s) i + joinP (prS (arQ C) s) i = i :=
  tied_all (fun i hi => pr_range hm h12 s i hi) (fun v => by rw [dg_oc]; exact oc_le hm h12 h0 v) i hi
/-- The rings that are closed with one arc cut, and one more, are those that labels tell. -/
theorem rings_cut {C : List Cr} {loops : Int} (hm : mayD C loops = true) (h12 : C.length ≤ 12) (h0 : 0 < C.length) (s : Nat) : closP (prS (arQ C) s) (2 * C.length) + 1 + joinP (prS (arN C) s) (2 * C.length) = 2 * C.length := by
  obtain ⟨h1, h2⟩ := tied_state hm h12 h0 s (2 * C.length) (Nat.le_refl _)
  have a := ar_range hm h0 (s := 0) (by omega)
  obtain ⟨-, h3⟩ := cut_join (P := prS (arN C) s) (Q := prS (arQ C) s) (m := 2 * C.length) (A := arN C 0 0) (by omega) (fun i hi => pr_cut hm h12 s i hi) (2 * C.length) (Nat.le_refl _)
  obtain ⟨n, hn⟩ : ∃ n, C.length = n + 1 := ⟨C.length - 1, by omega⟩
  have hd : ∀ v, dgP (prS (arQ C) s) (2 * C.length) v + (if arN C 0 0 = v then 1 else 0) = oc (arN C) v C.length + (if 25 = v then 1 else 0) := by
    intro v; rw [dg_oc, hn]; exact oc_cut C v n
  have dA : dgP (prS (arQ C) s) (2 * C.length) (arN C 0 0) = 1 := by
    have := hd (arN C 0 0)
    rw [if_pos rfl, oc_two hm a.2.2.1 a.2.2.2, if_neg (by omega)] at this; omega
  obtain ⟨o1, o2, o3, o4, o5⟩ := h1.one (arN C 0 0) a.2.2.1 (by omega) dA
  have hlt := h1.lt (arN C 0 0)
  have e25 : (tieP (prS (arQ C) s) (2 * C.length)).getD (arN C 0 0) 0 = 25 := by
    generalize (tieP (prS (arQ C) s) (2 * C.length)).getD (arN C 0 0) 0 = u at *
    have := hd u
    rw [o3, if_neg (Ne.symm o1)] at this
    by_cases hu : u ≤ 2 * C.length
    · rw [oc_two hm o2 hu] at this; omega
    · rw [oc_none hm (Or.inr (by omega)) C.length (Nat.le_refl _)] at this
      by_cases e : 25 = u
      · exact e.symm
      · rw [if_neg e] at this; omega
  rw [e25] at o5
  rw [if_pos o5] at h3
  omega
/-- Bits of a state. -/
theorem bit_lo {k j s : Nat} (h : j < k) : (2 ^ k + s) / 2 ^ j % 2 = s / 2 ^ j % 2 := by
  have e : 2 ^ k = 2 ^ j * (2 * 2 ^ (k - j - 1)) := by
    rw [← Nat.mul_assoc, Nat.mul_comm (2 ^ j) 2, Nat.mul_assoc, ← Nat.pow_add, show j + (k - j - 1) = k - 1 by omega, ← Nat.pow_succ']
    congr 1; omega
  rw [e, Nat.mul_add_div (Nat.two_pow_pos j)]; omega
theorem bit_hi {k s : Nat} (h : s < 2 ^ k) : (2 ^ k + s) / 2 ^ k % 2 = 1 := by
  rw [show 2 ^ k + s = 2 ^ k * 1 + s by omega, Nat.mul_add_div (Nat.two_pow_pos k), Nat.div_eq_of_lt h]
theorem bit_off {k s : Nat} (h : s < 2 ^ k) : s / 2 ^ k % 2 = 0 := by rw [Nat.div_eq_of_lt h]
theorem pr_low (ar : Nat → Nat → Nat) {k s i : Nat} (hi : i < 2 * k) : prS ar (2 ^ k + s) i = prS ar s i := by
  unfold prS
  rw [bit_lo (by omega : i / 2 < k)]
theorem tie_congr {P Q : Nat → Nat × Nat} : ∀ i, (∀ j, j < i → P j = Q j) → tieP P i = tieP Q i ∧ closP P i = closP Q i ∧ labP P i = labP Q i ∧ joinP P i = joinP Q i
  | 0, _ => ⟨rfl, rfl, rfl, rfl⟩
  | i + 1, h => by
    obtain ⟨e1, e2, e3, e4⟩ := tie_congr i fun j hj => h j (by omega)
    have e := h i (by omega)
    refine ⟨?_, ?_, ?_, ?_⟩
    · show tieT (tieP P i) _ _ = tieT (tieP Q i) _ _; rw [e1, e]
    · show closP P i + tieN (tieP P i) _ _ = closP Q i + tieN (tieP Q i) _ _; rw [e1, e2, e]
    · show lab (labP P i) _ _ = lab (labP Q i) _ _; rw [e3, e]
    · show joinP P i + (if labP P i _ = labP P i _ then 0 else 1) = joinP Q i + (if labP Q i _ = labP Q i _ then 0 else 1); rw [e3, e4, e]
end Go.Proofs.YtihijieciogabaaDoor
/- The walks of ref.DiagramOf and gauss.Strands; rows that are the same. -/
namespace Go.Proofs.YtihijieciogabaaDoor
open Go.RowKit

/-- The crossings as cells, one behind the other. -/
def crossCells (C : List Cr) : List Value := C.flatMap fun x => [.int .i64 x.a, .int .i64 x.b, .int .i64 x.c, .int .i64 x.d, .bool x.plus]
theorem cells_length (C : List Cr) : (crossCells C).length = C.length * 5 := by
  induction C with
  | nil => rfl
  | cons t l ih => simp [crossCells] at *; omega
theorem cells_get (C : List Cr) (i : Nat) (hi : i < C.length) : (crossCells C)[i * 5]? = some (.int .i64 (C.getD i Cr.none).a) ∧ (crossCells C)[i * 5 + 1]? = some (.int .i64 (C.getD i Cr.none).b) ∧ (crossCells C)[i * 5 + 2]? = some (.int .i64 (C.getD i Cr.none).c) ∧ (crossCells C)[i * 5 + 3]? = some (.int .i64 (C.getD i Cr.none).d) ∧ (crossCells C)[i * 5 + 4]? = some (.bool (C.getD i Cr.none).plus) := by
  induction C generalizing i with
  | nil => simp at hi
  | cons t l ih =>
    have e : crossCells (t :: l) = .int .i64 t.a :: .int .i64 t.b :: .int .i64 t.c :: .int .i64 t.d :: .bool t.plus :: crossCells l := rfl
    cases i with
    | zero => rw [e]; exact ⟨rfl, rfl, rfl, rfl, rfl⟩
    | succ i =>
      have := ih i (by simpa using hi)
      have e1 : (i + 1) * 5 = i * 5 + 1 + 1 + 1 + 1 + 1 := by omega
      rw [e, e1]
      exact this
theorem cells_one (C : List Cr) : ∀ u ∈ crossCells C, u.oneCell' = true := by
  intro u hu
  simp only [crossCells, List.mem_flatMap] at hu
  obtain ⟨t, _, ht⟩ := hu
  simp at ht
  rcases ht with rfl | rfl | rfl | rfl | rfl <;> rfl
theorem cells_at {w : World} {b off : Nat} {C : List Cr} (h : CrossAt w b off C) : ∀ j u, (crossCells C)[j]? = some u → w.cell? ((⟨b, off, none⟩ : Addr).add j) = some u := by
  intro j u hj
  have hlt : j < (crossCells C).length := by
    rcases Nat.lt_or_ge j (crossCells C).length with h | h
    · exact h
    · rw [List.getElem?_eq_none h] at hj; cases hj
  rw [cells_length] at hlt
  have hi : j / 5 < C.length := by omega
  have g := cells_get C (j / 5) hi
  have c := h (j / 5) hi
  rw [Addr.add_lit]
  have h5 : j % 5 = 0 ∨ j % 5 = 1 ∨ j % 5 = 2 ∨ j % 5 = 3 ∨ j % 5 = 4 := by omega
  rcases h5 with e | e | e | e | e
  · rw [show j / 5 * 5 = j by omega] at g c
    rw [g.1] at hj
    rw [← hj]
    exact c.1
  · rw [show j / 5 * 5 + 1 = j by omega] at g
    rw [show off + j / 5 * 5 + 1 = off + j by omega] at c
    rw [g.2.1] at hj
    rw [← hj]
    exact c.2.1
  · rw [show j / 5 * 5 + 2 = j by omega] at g
    rw [show off + j / 5 * 5 + 2 = off + j by omega] at c
    rw [g.2.2.1] at hj
    rw [← hj]
    exact c.2.2.1
  · rw [show j / 5 * 5 + 3 = j by omega] at g
    rw [show off + j / 5 * 5 + 3 = off + j by omega] at c
    rw [g.2.2.2.1] at hj
    rw [← hj]
    exact c.2.2.2.1
  · rw [show j / 5 * 5 + 4 = j by omega] at g
    rw [show off + j / 5 * 5 + 4 = off + j by omega] at c
    rw [g.2.2.2.2] at hj
    rw [← hj]
    exact c.2.2.2.2
theorem crs_own {w : World} {B e : Nat} {v : Value} {C : List Cr} (h : w.ownsRow B e 5 v C.length (crossCells C)) (hn : C.length ≤ maxLen) : Crs w w.heap.size v C := by
  have h0 := h
  rcases h.2 with ⟨rfl, h1⟩ | ⟨g, cap, cur, rfl, _, _, _⟩
  · exact ⟨none, 0, by rw [h1], hn, fun hp => by omega⟩
  · refine ⟨some ⟨g, 0, none⟩, cap, rfl, hn, fun _ => ⟨g, 0, rfl, (h0.lt g rfl).2, fun i hi => ?_⟩⟩
    have g0 := cells_get C i hi
    rw [Nat.zero_add]
    exact ⟨(h0.cellAt (i * 5) (by omega)).trans g0.1, (h0.cellAt (i * 5 + 1) (by omega)).trans g0.2.1, (h0.cellAt (i * 5 + 2) (by omega)).trans g0.2.2.1, (h0.cellAt (i * 5 + 3) (by omega)).trans g0.2.2.2.1, (h0.cellAt (i * 5 + 4) (by omega)).trans g0.2.2.2.2⟩
/-- A slice of crossings as it is handed in. -/
def CrsW (w : World) (B : Nat) (v : Value) (C : List Cr) : Prop :=
  (v = .slice none 0 0 ∧ C = []) ∨ (∃ ad cap, v = .slice (some ad) 0 cap ∧ C = []) ∨ ∃ b off cap, v = .slice (some ⟨b, off, none⟩) C.length cap ∧ b < B ∧ CrossAt w b off C
theorem CrsW.crs {w : World} {B : Nat} {v : Value} {C : List Cr} (h : CrsW w B v C) (hn : C.length ≤ maxLen) : Crs w B v C := by
  rcases h with ⟨rfl, rfl⟩ | ⟨ad, cap, rfl, rfl⟩ | ⟨b, off, cap, rfl, hlt, hC⟩
  · exact ⟨none, 0, rfl, hn, fun hp => by simp at hp⟩
  · exact ⟨some ad, cap, rfl, hn, fun hp => by simp at hp⟩
  · exact ⟨some ⟨b, off, none⟩, cap, rfl, hn, fun _ => ⟨b, off, rfl, hlt, hC⟩⟩
theorem CrsW.up {w w' : World} {v : Value} {C : List Cr} (h : CrsW w w.heap.size v C) (hb : Below w.heap.size w w') : CrsW w' w'.heap.size v C := by
  rcases h with h | h | ⟨b, off, cap, hv, hlt, hC⟩
  · exact Or.inl h
  · exact Or.inr (Or.inl h)
  · exact Or.inr (Or.inr ⟨b, off, cap, hv, Nat.lt_of_lt_of_le hlt hb.size, hC.on hb hlt⟩)
theorem infoCross : (Tryd.prog.info? 69).map (fun i => (i.zero, i.size, i.bytes)) = some (some (.agg #[.int .i64 0, .int .i64 0, .int .i64 0, .int .i64 0, .bool false]), 5, 40) := by kernel_rfl

set_option maxHeartbeats 2000000 in
set_option maxRecDepth 100000 in
theorem diagramOf_any (v : Value) (C : List Cr) (loops : Int) (w : World) (hl : C.length * 40 ≤ 140737488355328) (h : CrsW w w.heap.size v C) :
    Calls Tryd.prog 6 #[.agg #[v, .int .i64 loops]] w fun e w' => ∃ v', e = .returned (.agg #[v', .int .i64 loops]) ∧ Crs w' w'.heap.size v' C ∧ Below w.heap.size w w' := by
  obtain ⟨i0, hi, hz0, hz1, hz2⟩ := info_parts infoCross
  have hm : C.length ≤ maxLen := by unfold maxLen; omega
  obtain ⟨w0, hw0⟩ : ∃ w0, w0 = (w.alloc (.cells #[v, .int .i64 loops] 24)).alloc (.cells #[.slice none 0 0, .int .i64 0] 24) := ⟨_, rfl⟩
  have HW0 : Hid (w0 = (w.alloc (.cells #[v, .int .i64 loops] 24)).alloc (.cells #[.slice none 0 0, .int .i64 0] 24)) := hw0
  have hs0 : w0.heap.size = w.heap.size + 2 := by rw [hw0]; simp
  have HB0 : Hid (Below w.heap.size w w0) := (by rw [hw0]; exact below2 _ _ _ : Below w.heap.size w w0)
  clear hw0
  rcases h with ⟨rfl, rfl⟩ | ⟨ad, cap, rfl, rfl⟩ | ⟨b, off, cap, rfl, hlt, hC⟩
  · go_enter Tryd.func6, Tryd.ntmps6
    go_wp2_with (at_builtin; refine wpList_append_own_none rfl _ _ 22 rfl w.heap.size 69 i0 5 Tryd.underlying22 hi _ 0 [] rfl (World.ownsRow_nil _ _ _ _) rfl ?_)
    exact bodyPost_ret (v := .agg #[.slice none 0 0, .int .i64 loops]) (by simp [results, Tryd.results6, go_sem]) rfl ⟨_, rfl, ⟨none, 0, rfl, hm, fun hp => by simp at hp⟩, below2 _ _ _⟩
  · have c0 : w0.heap[w.heap.size]? = some (.cells #[.slice (some ad) 0 cap, .int .i64 loops] 24 (0, 0)) := by rw [HW0.out]; exact alloc_old (alloc_at rfl)
    have c1 : w0.heap[w.heap.size + 1]? = some (.cells #[.slice none 0 0, .int .i64 0] 24 (0, 0)) := by rw [HW0.out]; exact alloc_at (by simp)
    have HC0 : Hid (w0.heap[w.heap.size]? = some (.cells #[.slice (some ad) 0 cap, .int .i64 loops] 24 (0, 0))) := c0
    have HC1 : Hid (w0.heap[w.heap.size + 1]? = some (.cells #[.slice none 0 0, .int .i64 0] 24 (0, 0))) := c1
    clear c0 c1
    go_enter Tryd.func6, Tryd.ntmps6
    go_wp2_with (at_builtin; refine wpList_append_own _ rfl _ _ 22 rfl (w.heap.size + 2) 69 i0 (.agg #[.int .i64 0, .int .i64 0, .int .i64 0, .int .i64 0, .bool false]) 5 40 Tryd.underlying22 hi hz0 hz1 hz2 rfl (by decide) _ 0 [] rfl (World.ownsRow_nil _ _ _ _) ad 0 cap [] rfl rfl (fun j u h => by simp at h) (fun u h => by simp at h) (by decide) (by decide) (by simp) ?_; intro v' w1 hown hgr _; refine Hid.out ?_)
    refine Lib.hid ?_
    rw [← HW0.out] at hgr
    have HGR : Hid (w0.grownBy w1 none) := hgr
    have HOW : Hid (w1.ownsRow (w.heap.size + 2) 69 5 v' (0 + 0) ([] ++ [])) := hown
    obtain ⟨a', c', rfl⟩ := own_capS hown
    have hs1 := hgr.size
    clear hown hgr
    have hg0 := (HGR.out.block _ (by omega) (by simp)).trans HC0.out
    have hg1 := (HGR.out.block _ (by omega) (by simp)).trans HC1.out
    have p0 : w1.cell? ⟨w.heap.size, 0, none⟩ = some (.slice (some ad) 0 cap) := block_cell hg0 rfl
    have p1 : w1.cell? ⟨w.heap.size, 1, none⟩ = some (.int .i64 loops) := block_cell hg0 rfl
    have p2 : w1.cell? ⟨w.heap.size + 1, 0, none⟩ = some (.slice none 0 0) := block_cell hg1 rfl
    have p3 : w1.cell? ⟨w.heap.size + 1, 1, none⟩ = some (.int .i64 0) := block_cell hg1 rfl
    have f0 : w1.frozen? ⟨w.heap.size, 0, none⟩ = false := block_frozen hg0
    have f2 : w1.frozen? ⟨w.heap.size + 1, 0, none⟩ = false := block_frozen hg1
    have f3 : w1.frozen? ⟨w.heap.size + 1, 1, none⟩ = false := block_frozen hg1
    have HG1 : Hid (w1.heap[w.heap.size + 1]? = some (.cells #[.slice none 0 0, .int .i64 0] 24 (0, 0))) := hg1
    clear hg0 hg1
    go_wp2
    have hq0 := ((set_grown w1 w.heap.size 0 (.slice a' 0 c')).block (w.heap.size + 1) (by omega) (fun e => by have := Option.some.inj e; omega)).trans HG1.out
    have hq := set_block (i := 1) (u := .int .i64 loops) (set_block (i := 0) (u := .slice a' 0 c') hq0)
    have x0 := block_cell (i := 0) (v := .slice a' 0 c') hq rfl
    have x1 := block_cell (i := 1) (v := .int .i64 loops) hq rfl
    have hk1 := HOW.out.kept (set_grown w1 w.heap.size 0 (.slice a' 0 c')) (by rcases HOW.out.2 with ⟨e, _⟩ | ⟨g, cp, cu, e, hg, _⟩ <;> injection e with e1 e2 e3 <;> subst e1 <;> first | exact Or.inl rfl | (refine Or.inr (fun e => ?_); have : g = w.heap.size := Option.some.inj e; omega))
    have hk2 := hk1.kept (st2_grown (w1.setCell ⟨w.heap.size, 0, none⟩ (.slice a' 0 c')) (w.heap.size + 1) 0 (.slice a' 0 c') (.int .i64 loops)) (by rcases HOW.out.2 with ⟨e, _⟩ | ⟨g, cp, cu, e, hg, _⟩ <;> injection e with e1 e2 e3 <;> subst e1 <;> first | exact Or.inl rfl | (refine Or.inr (fun e => ?_); have : g = w.heap.size + 1 := Option.some.inj e; omega))
    refine bodyPost_ret (v := .agg #[.slice a' 0 c', .int .i64 loops]) (by simp [results, Tryd.results6, go_sem, x0, x1]) rfl ⟨_, rfl, ?_, ?_⟩
    · rw [Nat.zero_add, List.nil_append] at hk2
      exact crs_own (C := []) hk2 hm
    · exact ((HB0.out.grown HGR.out (by omega) (fun k hk => by cases hk)).grown (set_grown w1 w.heap.size 0 (.slice a' 0 c')) (by omega) (fun k hk => by have := Option.some.inj hk; omega)).grown (st2_grown (w1.setCell ⟨w.heap.size, 0, none⟩ (.slice a' 0 c')) (w.heap.size + 1) 0 (.slice a' 0 c') (.int .i64 loops)) (by simp; omega) (fun k hk => by have := Option.some.inj hk; omega)
  · have c0 : w0.heap[w.heap.size]? = some (.cells #[.slice (some ⟨b, off, none⟩) C.length cap, .int .i64 loops] 24 (0, 0)) := by rw [HW0.out]; exact alloc_old (alloc_at rfl)
    have c1 : w0.heap[w.heap.size + 1]? = some (.cells #[.slice none 0 0, .int .i64 0] 24 (0, 0)) := by rw [HW0.out]; exact alloc_at (by simp)
    have HC0 : Hid (w0.heap[w.heap.size]? = some (.cells #[.slice (some ⟨b, off, none⟩) C.length cap, .int .i64 loops] 24 (0, 0))) := c0
    have HC1 : Hid (w0.heap[w.heap.size + 1]? = some (.cells #[.slice none 0 0, .int .i64 0] 24 (0, 0))) := c1
    clear c0 c1
    have HCA : Hid (CrossAt ((w.alloc (.cells #[.slice (some ⟨b, off, none⟩) C.length cap, .int .i64 loops] 24)).alloc (.cells #[.slice none 0 0, .int .i64 0] 24)) b off C) := hC.on (below2 _ _ _) hlt
    clear hC
    go_enter Tryd.func6, Tryd.ntmps6
    go_wp2_with (at_builtin; refine wpList_append_own _ rfl _ _ 22 rfl (w.heap.size + 2) 69 i0 (.agg #[.int .i64 0, .int .i64 0, .int .i64 0, .int .i64 0, .bool false]) 5 40 Tryd.underlying22 hi hz0 hz1 hz2 rfl (by decide) _ 0 [] rfl (World.ownsRow_nil _ _ _ _) ⟨b, off, none⟩ C.length cap (crossCells C) rfl (cells_length C) (cells_at HCA.out) (cells_one C) (by unfold maxLen; omega) (by omega) (by simp) ?_; intro v' w1 hown hgr _; refine Hid.out ?_)
    refine Lib.hid ?_
    rw [← HW0.out] at hgr
    have HGR : Hid (w0.grownBy w1 none) := hgr
    have HOW : Hid (w1.ownsRow (w.heap.size + 2) 69 5 v' (0 + C.length) ([] ++ (crossCells C))) := hown
    obtain ⟨a', c', rfl⟩ := own_capS hown
    have hs1 := hgr.size
    clear hown hgr
    have hg0 := (HGR.out.block _ (by omega) (by simp)).trans HC0.out
    have hg1 := (HGR.out.block _ (by omega) (by simp)).trans HC1.out
    have p0 : w1.cell? ⟨w.heap.size, 0, none⟩ = some (.slice (some ⟨b, off, none⟩) C.length cap) := block_cell hg0 rfl
    have p1 : w1.cell? ⟨w.heap.size, 1, none⟩ = some (.int .i64 loops) := block_cell hg0 rfl
    have p2 : w1.cell? ⟨w.heap.size + 1, 0, none⟩ = some (.slice none 0 0) := block_cell hg1 rfl
    have p3 : w1.cell? ⟨w.heap.size + 1, 1, none⟩ = some (.int .i64 0) := block_cell hg1 rfl
    have f0 : w1.frozen? ⟨w.heap.size, 0, none⟩ = false := block_frozen hg0
    have f2 : w1.frozen? ⟨w.heap.size + 1, 0, none⟩ = false := block_frozen hg1
    have f3 : w1.frozen? ⟨w.heap.size + 1, 1, none⟩ = false := block_frozen hg1
    have HG1 : Hid (w1.heap[w.heap.size + 1]? = some (.cells #[.slice none 0 0, .int .i64 0] 24 (0, 0))) := hg1
    clear hg0 hg1
    go_wp2
    have hq0 := ((set_grown w1 w.heap.size 0 (.slice a' C.length c')).block (w.heap.size + 1) (by omega) (fun e => by have := Option.some.inj e; omega)).trans HG1.out
    have hq := set_block (i := 1) (u := .int .i64 loops) (set_block (i := 0) (u := .slice a' C.length c') hq0)
    have x0 := block_cell (i := 0) (v := .slice a' C.length c') hq rfl
    have x1 := block_cell (i := 1) (v := .int .i64 loops) hq rfl
    have hk1 := HOW.out.kept (set_grown w1 w.heap.size 0 (.slice a' C.length c')) (by rcases HOW.out.2 with ⟨e, _⟩ | ⟨g, cp, cu, e, hg, _⟩ <;> injection e with e1 e2 e3 <;> subst e1 <;> first | exact Or.inl rfl | (refine Or.inr (fun e => ?_); have : g = w.heap.size := Option.some.inj e; omega))
    have hk2 := hk1.kept (st2_grown (w1.setCell ⟨w.heap.size, 0, none⟩ (.slice a' C.length c')) (w.heap.size + 1) 0 (.slice a' C.length c') (.int .i64 loops)) (by rcases HOW.out.2 with ⟨e, _⟩ | ⟨g, cp, cu, e, hg, _⟩ <;> injection e with e1 e2 e3 <;> subst e1 <;> first | exact Or.inl rfl | (refine Or.inr (fun e => ?_); have : g = w.heap.size + 1 := Option.some.inj e; omega))
    refine bodyPost_ret (v := .agg #[.slice a' C.length c', .int .i64 loops]) (by simp [results, Tryd.results6, go_sem, x0, x1]) rfl ⟨_, rfl, ?_, ?_⟩
    · rw [Nat.zero_add, List.nil_append] at hk2
      exact crs_own (C := C) hk2 hm
    · exact ((HB0.out.grown HGR.out (by omega) (fun k hk => by cases hk)).grown (set_grown w1 w.heap.size 0 (.slice a' C.length c')) (by omega) (fun k hk => by have := Option.some.inj hk; omega)).grown (st2_grown (w1.setCell ⟨w.heap.size, 0, none⟩ (.slice a' C.length c')) (w.heap.size + 1) 0 (.slice a' C.length c') (.int .i64 loops)) (by simp; omega) (fun k hk => by have := Option.some.inj hk; omega)

theorem own_terms {w : World} {B e n g c : Nat} {l : List (Int × Int)} (h : w.ownsRow B e 2 (.slice (some ⟨g, 0, none⟩) n c) n (flat l)) (hl : l.length = n) : TermsAt w g 0 l := by
  intro i hi
  have g0 := flat_get l i hi
  rw [Nat.zero_add]
  exact ⟨(h.cellAt (i * 2) (by omega)).trans g0.1, (h.cellAt (i * 2 + 1) (by omega)).trans g0.2⟩
/-- What drawing.Of answered is a drawing. -/
theorem Drawn.dr {w w' : World} {a : Option Addr} {cap : Nat} {loops : Int} {C : List Cr} {D : Value} (h : Drawn w w' w.heap.size (.slice a C.length cap) loops C D) (hm : mayD C loops = true) (hb : Below w.heap.size w w') (hC : Crs w w.heap.size (.slice a C.length cap) C) :
    ∃ gF cF gT cT, D = drV a cap C loops gF cF gT cT ∧ Dr w' a cap C gF gT := by
  obtain ⟨gF, cF, gT, cT, rfl, h1, h2⟩ := h.yes hm
  exact ⟨gF, cF, gT, cT, rfl, hC.up hb, (h1.lt gF rfl).2, (h2.lt gT rfl).2, own_terms h1 (ends_length _ _ _ _), own_terms h2 (ends_length _ _ _ _)⟩

end Go.Proofs.YtihijieciogabaaDoor
/- Visits: lists of them that a call owns; the walks of gauss.visits and gauss.signs. -/
namespace Go.Proofs.YtihijieciogabaaDoor
open Go.RowKit

/-- The visit to which arc a leads. -/
def vis (C : List Cr) (a : Nat) : Nat × Bool := (toC C a, !decide (toS C a = 0))
def visL (C : List Cr) (l : List Nat) : List (Nat × Bool) := l.map (vis C)
def visM (C : List Cr) : List (List (Nat × Bool)) := (walksM C).map (visL C)
/-- Visits as cells. -/
def vflat (V : List (Nat × Bool)) : List Value := V.flatMap fun t => [.int .i64 (t.1 : Nat), .bool t.2]
theorem vflat_length (l : List (Nat × Bool)) : (vflat l).length = l.length * 2 := by
  induction l with
  | nil => rfl
  | cons t l ih => simp [vflat] at *; omega
theorem vflat_append (l m : List (Nat × Bool)) : vflat (l ++ m) = vflat l ++ vflat m := by simp [vflat]
theorem vflat_get (l : List (Nat × Bool)) (i : Nat) (hi : i < l.length) : (vflat l)[i * 2]? = some (.int .i64 ((l.getD i (0, false)).1 : Nat)) ∧ (vflat l)[i * 2 + 1]? = some (.bool (l.getD i (0, false)).2) := by
  induction l generalizing i with
  | nil => simp at hi
  | cons t l ih =>
    have e : vflat (t :: l) = .int .i64 (t.1 : Nat) :: .bool t.2 :: vflat l := rfl
    cases i with
    | zero => rw [e]; exact ⟨rfl, rfl⟩
    | succ i =>
      have := ih i (by simpa using hi)
      rw [e, show (i + 1) * 2 = i * 2 + 1 + 1 by omega]
      exact this
theorem vflat_set (l : List (Nat × Bool)) (i : Nat) (hi : i < l.length) (t : Nat × Bool) : ((vflat l).set (i * 2) (.int .i64 (t.1 : Nat))).set (i * 2 + 1) (.bool t.2) = vflat (l.set i t) := by
  induction l generalizing i with
  | nil => simp at hi
  | cons s l ih =>
    have e : vflat (s :: l) = .int .i64 (s.1 : Nat) :: .bool s.2 :: vflat l := rfl
    cases i with
    | zero => rw [e]; rfl
    | succ i =>
      have := ih i (by simpa using hi)
      have e2 : vflat ((s :: l).set (i + 1) t) = .int .i64 (s.1 : Nat) :: .bool s.2 :: vflat (l.set i t) := rfl
      rw [e, e2, show (i + 1) * 2 = i * 2 + 1 + 1 by omega, List.set_cons_succ, List.set_cons_succ, List.set_cons_succ, List.set_cons_succ, this]
theorem vflat_one (l : List (Nat × Bool)) : ∀ u ∈ vflat l, u.oneCell' = true := by
  intro u hu
  simp only [vflat, List.mem_flatMap] at hu
  obtain ⟨t, _, ht⟩ := hu
  simp at ht
  rcases ht with rfl | rfl <;> rfl
theorem vflat_zeros (n : Nat) : (madeCells #[Value.int .i64 0, .bool false] (n * 2)).toList = vflat (List.replicate n (0, false)) := by
  apply List.ext_getElem?
  intro j
  by_cases hj : j < n * 2
  · have g := vflat_get (List.replicate n (0, false)) (j / 2) (by simp; omega)
    have e : (List.replicate n ((0 : Nat), false)).getD (j / 2) (0, false) = (0, false) := by
      rw [List.getD_eq_getElem?_getD, List.getElem?_replicate]
      split <;> rfl
    rw [e] at g
    simp only [madeCells]
    rcases Nat.mod_two_eq_zero_or_one j with h | h
    · rw [show j / 2 * 2 = j by omega] at g
      rw [g.1]
      simp [hj, h]
    · rw [show j / 2 * 2 + 1 = j by omega] at g
      rw [g.2]
      simp [hj, h]
  · rw [List.getElem?_eq_none (by simp [madeCells]; omega), List.getElem?_eq_none (by rw [vflat_length]; simp; omega)]
/-- What the loop has done behind i visits. -/
def partTo (C : List Cr) (l : List Nat) (i : Nat) : List (Nat × Bool) := visL C (l.take i) ++ List.replicate (l.length - i) (0, false)
theorem part_len (C : List Cr) (l : List Nat) (i : Nat) (h : i ≤ l.length) : (partTo C l i).length = l.length := by simp [partTo, visL]; omega
theorem part_next (C : List Cr) (l : List Nat) (i : Nat) (h : i < l.length) : (partTo C l i).set i (vis C (l.getD i 0)) = partTo C l (i + 1) := by
  unfold partTo visL
  rw [List.set_append_right _ _ (by simp; omega)]
  have e : l.length - i = (l.length - (i + 1)) + 1 := by omega
  have e2 : l.take (i + 1) = l.take i ++ [l.getD i 0] := by
    rw [List.take_add_one, List.getD_eq_getElem?_getD, List.getElem?_eq_getElem h]
    rfl
  rw [e2, List.map_append, e, List.replicate_succ]
  simp [Nat.min_eq_left (Nat.le_of_lt h)]
theorem part_all (C : List Cr) (l : List Nat) : partTo C l l.length = visL C l := by simp [partTo]
theorem own_stv {w : World} {B e n g cap i : Nat} {l : List (Nat × Bool)} {t : Nat × Bool} (h : w.ownsRow B e 2 (.slice (some ⟨g, 0, none⟩) n cap) n (vflat l)) (hi : i < l.length) : (st2 w g (i * 2) (.int .i64 (t.1 : Nat)) (.bool t.2)).ownsRow B e 2 (.slice (some ⟨g, 0, none⟩) n cap) n (vflat (l.set i t)) := by
  have h1 := (h.stored (i * 2) (.int .i64 (t.1 : Nat))).1
  have h2 := (h1.stored (i * 2 + 1) (.bool t.2)).1
  rw [vflat_set l i hi t] at h2
  exact h2
/-- The walks as one looks at them. -/
def WksAt (w : World) (v : Value) (L : List (List Nat)) : Prop := ∃ ys : List Value, ys.length = L.length ∧ Slots w w.heap.size v ys ∧ ∀ j, j < L.length → Slots w w.heap.size (ys.getD j (.bool false)) (nats (L.getD j []))
theorem NatsOwn.wks {w : World} {B : Nat} {v : Value} {L : List (List Nat)} (h : NatsOwn w B v L) : WksAt w v L := by
  obtain ⟨ys, h1, h2, h3⟩ := h
  exact ⟨ys, h1, slots_of_own h2, fun j hj => slots_of_own (h3 j hj)⟩
theorem WksAt.on {w w' : World} {v : Value} {L : List (List Nat)} (h : WksAt w v L) (hb : Below w.heap.size w w') : WksAt w' v L := by
  obtain ⟨ys, h1, h2, h3⟩ := h
  exact ⟨ys, h1, (h2.on hb).mono hb.size, fun j hj => ((h3 j hj).on hb).mono hb.size⟩
theorem walksM_facts {C : List Cr} {loops : Int} (hm : mayD C loops = true) : (walksM C).length ≤ 2 * C.length ∧ ∀ j, j < (walksM C).length → 0 < ((walksM C).getD j []).length ∧ ((walksM C).getD j []).length ≤ 2 * C.length + 1 ∧ ∀ i, i < ((walksM C).getD j []).length → 1 ≤ ((walksM C).getD j []).getD i 0 ∧ ((walksM C).getD j []).getD i 0 ≤ 2 * C.length := by
  refine ⟨walksTo_count _ _ _, fun j hj => ?_⟩
  have hmem : (walksM C).getD j [] ∈ walksM C := by
    rw [List.getD_eq_getElem?_getD, List.getElem?_eq_getElem hj]
    exact List.getElem_mem hj
  have h := walksTo_mem (nx_closed hm) (2 * C.length) (Nat.le_refl _) _ hmem
  clear hmem
  generalize (walksM C).getD j [] = l at h
  refine ⟨List.length_pos_iff.2 h.1, h.2.1, fun i hi => h.2.2 _ ?_⟩
  rw [List.getD_eq_getElem?_getD, List.getElem?_eq_getElem hi]
  exact List.getElem_mem hi

end Go.Proofs.YtihijieciogabaaDoor
/- The walk of gauss.signs; rows of visits and of signs that are the same. -/
namespace Go.Proofs.YtihijieciogabaaDoor
open Go.RowKit

/-- The signs of the crossings. -/
def plusM (C : List Cr) : List Bool := C.map Cr.plus
def plusTo (C : List Cr) (i : Nat) : List Bool := plusM (C.take i) ++ List.replicate (C.length - i) false
theorem plus_len (C : List Cr) (i : Nat) (h : i ≤ C.length) : (plusTo C i).length = C.length := by simp [plusTo, plusM]; omega
theorem plus_next (C : List Cr) (i : Nat) (h : i < C.length) : (plusTo C i).set i (C.getD i Cr.none).plus = plusTo C (i + 1) := by
  unfold plusTo plusM
  rw [List.set_append_right _ _ (by simp; omega)]
  have e : C.length - i = (C.length - (i + 1)) + 1 := by omega
  have e2 : C.take (i + 1) = C.take i ++ [C.getD i Cr.none] := by
    rw [List.take_add_one, List.getD_eq_getElem?_getD, List.getElem?_eq_getElem h]
    rfl
  rw [e2, List.map_append, e, List.replicate_succ]
  simp [Nat.min_eq_left (Nat.le_of_lt h)]
theorem plus_all (C : List Cr) : plusTo C C.length = plusM C := by simp [plusTo]

/-- A list of visits as one looks at it. -/
def VS (w : World) (v : Value) (V : List (Nat × Bool)) : Prop := ∃ a cap, v = .slice a V.length cap ∧ (0 < V.length → ∃ b off, a = some ⟨b, off, none⟩ ∧ b < w.heap.size ∧ ∀ i, i < V.length → w.cell? ⟨b, off + i * 2, none⟩ = some (.int .i64 ((V.getD i (0, false)).1 : Nat)) ∧ w.cell? ⟨b, off + i * 2 + 1, none⟩ = some (.bool (V.getD i (0, false)).2))
def VsAt (w : World) (v : Value) (L : List (List (Nat × Bool))) : Prop := ∃ ys : List Value, ys.length = L.length ∧ Slots w w.heap.size v ys ∧ ∀ j, j < L.length → VS w (ys.getD j (.bool false)) (L.getD j [])
theorem vs_own {w : World} {B e : Nat} {v : Value} {V : List (Nat × Bool)} (h : w.ownsRow B e 2 v V.length (vflat V)) : VS w v V := by
  have h0 := h
  rcases h.2 with ⟨rfl, h1⟩ | ⟨g, cap, cur, rfl, _, _, _⟩
  · exact ⟨none, 0, by rw [h1], fun hp => by omega⟩
  · refine ⟨some ⟨g, 0, none⟩, cap, rfl, fun _ => ⟨g, 0, rfl, (h0.lt g rfl).2, fun i hi => ?_⟩⟩
    have g0 := vflat_get V i hi
    rw [Nat.zero_add]
    exact ⟨(h0.cellAt (i * 2) (by omega)).trans g0.1, (h0.cellAt (i * 2 + 1) (by omega)).trans g0.2⟩
theorem VS.on {w w' : World} {v : Value} {V : List (Nat × Bool)} (h : VS w v V) (hb : Below w.heap.size w w') : VS w' v V := by
  obtain ⟨a, cap, rfl, g⟩ := h
  refine ⟨a, cap, rfl, fun hp => ?_⟩
  obtain ⟨b, off, rfl, hlt, hc⟩ := g hp
  exact ⟨b, off, rfl, Nat.lt_of_lt_of_le hlt hb.size, fun i hi => ⟨bcell hb hlt (hc i hi).1, bcell hb hlt (hc i hi).2⟩⟩
theorem VsAt.on {w w' : World} {v : Value} {L : List (List (Nat × Bool))} (h : VsAt w v L) (hb : Below w.heap.size w w') : VsAt w' v L := by
  obtain ⟨ys, h1, h2, h3⟩ := h
  exact ⟨ys, h1, (h2.on hb).mono hb.size, fun j hj => (h3 j hj).on hb⟩

end Go.Proofs.YtihijieciogabaaDoor
/- Lists of whole numbers that a call owns; the walk of gauss.evenNumbers. -/
namespace Go.Proofs.YtihijieciogabaaDoor
open Go.RowKit

def intsV (l : List Int) : List Value := l.map fun x => .int .i64 x
theorem intsV_len (l : List Int) : (intsV l).length = l.length := by simp [intsV]
theorem intsV_get (l : List Int) (i : Nat) (h : i < l.length) : (intsV l)[i]? = some (.int .i64 (l.getD i 0)) := by simp [intsV, List.getD, h]
theorem intsV_set (l : List Int) (i : Nat) (x : Int) : (intsV l).set i (.int .i64 x) = intsV (l.set i x) := by simp [intsV, List.map_set]
theorem intsV_app (l : List Int) (x : Int) : intsV (l ++ [x]) = intsV l ++ [.int .i64 x] := by simp [intsV]
theorem made_zero (n : Nat) : (madeCells (Value.int .i64 0).cells (n * 1)).toList = intsV (List.replicate n 0) := by
  have e : (Value.int .i64 0).cells = #[Value.int .i64 0] := rfl
  rw [e, toList_madeCells_one, Nat.mul_one]
  simp [intsV]
/-- The even numbers of all crossings, behind j even visits. -/
def evL (x : Nat → Nat) (o : Nat → Bool) (n j : Nat) : List Int := (List.range n).map fun c => evTo x o c j
theorem evL_len (x : Nat → Nat) (o : Nat → Bool) (n j : Nat) : (evL x o n j).length = n := by simp [evL]
theorem evL_at (x : Nat → Nat) (o : Nat → Bool) (n j c : Nat) (h : c < n) : (evL x o n j).getD c 0 = evTo x o c j := by simp [evL, List.getD, h]
theorem evL_zero (x : Nat → Nat) (o : Nat → Bool) (n : Nat) : evL x o n 0 = List.replicate n 0 := by
  unfold evL
  simp only [evTo]
  rw [List.map_const', List.length_range]
theorem evL_next (x : Nat → Nat) (o : Nat → Bool) (n j c : Nat) (h : x (2 * j + 1) = c) (hc : c < n) : (evL x o n j).set c (evN o j) = evL x o n (j + 1) := by
  apply List.ext_getElem?
  intro i
  rw [List.getElem?_set]
  by_cases hi : i < n
  · by_cases e : c = i
    · subst e
      simp [evL, evTo, h, hc]
    · rw [if_neg e]
      simp [evL, hi, evTo, h, e]
  · rw [List.getElem?_eq_none (by rw [evL_len]; omega), List.getElem?_eq_none (by rw [evL_len]; omega)]
    split
    · split
      · next h1 => rw [evL_len] at h1; omega
      · rfl
    · rfl
theorem evTo_le (x : Nat → Nat) (o : Nat → Bool) (c j : Nat) : -(2 * (j : Int)) ≤ evTo x o c j ∧ evTo x o c j ≤ 2 * (j : Int) := by
  induction j with
  | zero => simp [evTo]
  | succ j ih =>
    simp only [evTo, evN]
    split
    · split <;> omega
    · omega
/-- The visits of a list, place by place. -/
def vX (V : List (Nat × Bool)) (p : Nat) : Nat := (V.getD p (0, false)).1
def vO (V : List (Nat × Bool)) (p : Nat) : Bool := (V.getD p (0, false)).2

end Go.Proofs.YtihijieciogabaaDoor
