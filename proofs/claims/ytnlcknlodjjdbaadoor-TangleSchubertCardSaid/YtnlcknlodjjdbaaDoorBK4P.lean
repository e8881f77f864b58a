/- Several texts of the proof, one behind the other. -/
import Derived.Test.YtnlcknlodjjdbaaDoorBK3P
/- Plain mathematics of the bracket: states that tie the same, together; one crossing more; all states. -/
namespace Go.Proofs.YtnlcknlodjjdbaaDoor

def exS (s : Nat) : Nat → Int
  | 0 => 0
  | k + 1 => exS s k + (if s / 2 ^ k % 2 = 1 then 1 else -1)
/-- How a state ties the first k crossings. -/
def kyS (C : List Cr) (s k : Nat) : List Nat := tieP (prS (arQ C) s) (2 * k)
/-- What it is worth. -/
def wS (C : List Cr) (c0 s k : Nat) : Int → Int := shA (exS s k) (dlN (c0 + closP (prS (arQ C) s) (2 * k)) oneA)
def mS (C : List Cr) (c0 k : Nat) (T : List Nat) : Int → Int := fun y => sumS (2 ^ k) fun s => if kyS C s k = T then wS C c0 s k y else 0
/-- A crossing undone by A, by B. -/
def t4 (T : List Nat) (p q r s : Nat) : List Nat := tieT (tieT T p q) r s
def c4 (T : List Nat) (p q r s : Nat) : Nat := tieN T p q + tieN (tieT T p q) r s
def tA (C : List Cr) (k : Nat) (T : List Nat) : List Nat := t4 T (arQ C k 0) (arQ C k 1) (arQ C k 2) (arQ C k 3)
def cA (C : List Cr) (k : Nat) (T : List Nat) : Nat := c4 T (arQ C k 0) (arQ C k 1) (arQ C k 2) (arQ C k 3)
def tB (C : List Cr) (k : Nat) (T : List Nat) : List Nat := t4 T (arQ C k 1) (arQ C k 2) (arQ C k 3) (arQ C k 0)
def cB (C : List Cr) (k : Nat) (T : List Nat) : Nat := c4 T (arQ C k 1) (arQ C k 2) (arQ C k 3) (arQ C k 0)
theorem c4_le (T : List Nat) (p q r s : Nat) : c4 T p q r s ≤ 2 := by
  unfold c4 tieN; split <;> split <;> omega
theorem ex_low {k s : Nat} : ∀ j, j ≤ k → exS (2 ^ k + s) j = exS s j
  | 0, _ => rfl
  | j + 1, h => by
    show exS (2 ^ k + s) j + _ = exS s j + _
    rw [ex_low j (by omega), bit_lo (by omega : j < k)]
theorem ky_low (C : List Cr) {k s j : Nat} (h : j ≤ k) : kyS C (2 ^ k + s) j = kyS C s j := (tie_congr (2 * j) fun i hi => pr_low _ (by omega)).1
theorem clos_low (C : List Cr) {k s j : Nat} (h : j ≤ k) : closP (prS (arQ C) (2 ^ k + s)) (2 * j) = closP (prS (arQ C) s) (2 * j) := (tie_congr (2 * j) fun i hi => pr_low _ (by omega)).2.1
theorem w_low (C : List Cr) (c0 : Nat) {k s j : Nat} (h : j ≤ k) : wS C c0 (2 ^ k + s) j = wS C c0 s j := by
  unfold wS; rw [ex_low j h, clos_low C h]
theorem ky_next (C : List Cr) (s k : Nat) : kyS C s (k + 1) = if s / 2 ^ k % 2 = 1 then tA C k (kyS C s k) else tB C k (kyS C s k) := by
  unfold kyS tA tB t4
  rw [show 2 * (k + 1) = 2 * k + 1 + 1 by omega]
  show tieT (tieT (tieP _ (2 * k)) (prS _ s (2 * k)).1 (prS _ s (2 * k)).2) (prS _ s (2 * k + 1)).1 (prS _ s (2 * k + 1)).2 = _
  rw [pr_lo, pr_hi]
  by_cases h : s / 2 ^ k % 2 = 1
  · simp only [if_pos h]
  · simp only [if_neg h]
theorem clos_next (C : List Cr) (s k : Nat) : closP (prS (arQ C) s) (2 * (k + 1)) = closP (prS (arQ C) s) (2 * k) + if s / 2 ^ k % 2 = 1 then cA C k (kyS C s k) else cB C k (kyS C s k) := by
  unfold kyS cA cB c4
  rw [show 2 * (k + 1) = 2 * k + 1 + 1 by omega]
  show closP _ (2 * k) + tieN (tieP _ (2 * k)) (prS _ s (2 * k)).1 (prS _ s (2 * k)).2 + tieN (tieT (tieP _ (2 * k)) (prS _ s (2 * k)).1 (prS _ s (2 * k)).2) (prS _ s (2 * k + 1)).1 (prS _ s (2 * k + 1)).2 = _
  rw [pr_lo, pr_hi]
  by_cases h : s / 2 ^ k % 2 = 1
  · simp only [if_pos h]; omega
  · simp only [if_neg h]; omega
theorem w_next (C : List Cr) (c0 s k : Nat) : wS C c0 s (k + 1) = if s / 2 ^ k % 2 = 1 then dlN (cA C k (kyS C s k)) (shA 1 (wS C c0 s k)) else dlN (cB C k (kyS C s k)) (shA (-1) (wS C c0 s k)) := by
  unfold wS
  rw [clos_next]
  show shA (exS s k + _) _ = _
  by_cases h : s / 2 ^ k % 2 = 1
  · simp only [if_pos h]
    rw [sh_sh, dlN_sh, dlN_add, Int.add_comm 1]
    congr 2; omega
  · simp only [if_neg h]
    rw [sh_sh, dlN_sh, dlN_add, Int.add_comm (-1)]
    congr 2; omega
/-- What comes of states that ties a test lets by. -/
def undF (C : List Cr) (c0 k : Nat) (U : List Nat) (y : Int) (s : Nat) : Int :=
  (if tA C k (kyS C s k) = U then dlN (cA C k (kyS C s k)) (shA 1 (wS C c0 s k)) y else 0) + (if tB C k (kyS C s k) = U then dlN (cB C k (kyS C s k)) (shA (-1) (wS C c0 s k)) y else 0)
def undG (C : List Cr) (c0 k : Nat) (dn : List Nat → Bool) (U : List Nat) : Int → Int := fun y => sumS (2 ^ k) fun s => if dn (kyS C s k) = true then undF C c0 k U y s else 0
theorem undG_all (C : List Cr) (c0 k : Nat) (U : List Nat) {dn : List Nat → Bool} (h : ∀ s, s < 2 ^ k → dn (kyS C s k) = true) : undG C c0 k dn U = mS C c0 (k + 1) U := by
  funext y
  unfold mS undG
  rw [sumS_two]
  refine sumS_congr fun s hs => ?_
  rw [if_pos (h s hs)]
  unfold undF
  have b0 : ¬ s / 2 ^ k % 2 = 1 := by rw [bit_off hs]; decide
  have k0 : kyS C s (k + 1) = tB C k (kyS C s k) := by rw [ky_next, if_neg b0]
  have w0 : wS C c0 s (k + 1) = dlN (cB C k (kyS C s k)) (shA (-1) (wS C c0 s k)) := by rw [w_next, if_neg b0]
  have k1 : kyS C (2 ^ k + s) (k + 1) = tA C k (kyS C s k) := by rw [ky_next, if_pos (bit_hi hs), ky_low C (Nat.le_refl k)]
  have w1 : wS C c0 (2 ^ k + s) (k + 1) = dlN (cA C k (kyS C s k)) (shA 1 (wS C c0 s k)) := by rw [w_next, if_pos (bit_hi hs), ky_low C (Nat.le_refl k), w_low C c0 (Nat.le_refl k)]
  rw [k0, w0, k1, w1]
  omega
theorem dlN_if (c n : Nat) (P : Nat → Prop) [∀ s, Decidable (P s)] (F : Nat → Int → Int) : dlN c (fun y => sumS n fun s => if P s then F s y else 0) = fun y => sumS n fun s => if P s then dlN c (F s) y else 0 := by
  have e : (fun y => sumS n fun s => if P s then F s y else 0) = fun y => sumS n fun s => (if P s then F s else fun _ => 0) y := by
    funext y; refine sumS_congr fun s _ => ?_; split <;> rfl
  have z : ∀ c, dlN c (fun _ => 0) = fun _ => 0 := by
    intro c
    induction c with
    | zero => rfl
    | succ c ih => show dlA (dlN c _) = _; rw [ih]; rfl
  rw [e, dlN_sum]
  funext y
  refine sumS_congr fun s _ => ?_
  by_cases h : P s
  · rw [if_pos h, if_pos h]
  · rw [if_neg h, if_neg h, z]
theorem undG_step (C : List Cr) (c0 k : Nat) (U T : List Nat) {dn dn' : List Nat → Bool} (h0 : dn T = false) (h : ∀ s, dn' (kyS C s k) = true ↔ dn (kyS C s k) = true ∨ kyS C s k = T) (y : Int) :
    undG C c0 k dn' U y = undG C c0 k dn U y + (if tA C k T = U then dlN (cA C k T) (shA 1 (mS C c0 k T)) y else 0) + (if tB C k T = U then dlN (cB C k T) (shA (-1) (mS C c0 k T)) y else 0) := by
  unfold undG
  rw [sumS_more (F := undF C c0 k U y) (P := fun s => dn (kyS C s k)) (Q := fun s => decide (kyS C s k = T)) (R := fun s => dn' (kyS C s k)) (fun s _ => by rw [h s]; simp) (fun s _ e => by have := of_decide_eq_true e.2; rw [this, h0] at e; simp at e)]
  rw [Int.add_assoc]
  congr 1
  have hs : ∀ e, shA e (mS C c0 k T) = fun y => sumS (2 ^ k) fun s => if kyS C s k = T then shA e (wS C c0 s k) y else 0 := fun e => rfl
  rw [hs, hs, dlN_if, dlN_if]
  by_cases h1 : tA C k T = U <;> by_cases h2 : tB C k T = U
  · rw [if_pos h1, if_pos h2, ← sumS_add]
    refine sumS_congr fun s _ => ?_
    by_cases e : kyS C s k = T
    · unfold undF; rw [e]; simp [h1, h2]
    · simp [e]
  · rw [if_pos h1, if_neg h2, Int.add_zero]
    refine sumS_congr fun s _ => ?_
    by_cases e : kyS C s k = T
    · unfold undF; rw [e]; simp [h1, h2]
    · simp [e]
  · rw [if_neg h1, if_pos h2, Int.zero_add]
    refine sumS_congr fun s _ => ?_
    by_cases e : kyS C s k = T
    · unfold undF; rw [e]; simp [h1, h2]
    · simp [e]
  · rw [if_neg h1, if_neg h2]
    rw [show (0 : Int) + 0 = sumS (2 ^ k) (fun _ => 0) from (sumS_zero _).symm]
    refine sumS_congr fun s _ => ?_
    by_cases e : kyS C s k = T
    · unfold undF; rw [e]; simp [h1, h2]
    · simp [e]
theorem undG_none (C : List Cr) (c0 k : Nat) (U : List Nat) {dn : List Nat → Bool} (h : ∀ s, s < 2 ^ k → dn (kyS C s k) = false) (y : Int) : undG C c0 k dn U y = 0 := by
  unfold undG
  rw [sumS_congr (g := fun _ => 0) fun s hs => by rw [h s hs]; rfl, sumS_zero]
/-- All of them, as far as a test lets them by. -/
def allG (C : List Cr) (c0 k : Nat) (dn : List Nat → Bool) : Int → Int := fun y => sumS (2 ^ k) fun s => if dn (kyS C s k) = true then wS C c0 s k y else 0
def allS (C : List Cr) (c0 k : Nat) : Int → Int := fun y => sumS (2 ^ k) fun s => wS C c0 s k y
theorem allG_all (C : List Cr) (c0 k : Nat) {dn : List Nat → Bool} (h : ∀ s, s < 2 ^ k → dn (kyS C s k) = true) : allG C c0 k dn = allS C c0 k := by
  funext y; exact sumS_congr fun s hs => by rw [if_pos (h s hs)]
theorem allG_none (C : List Cr) (c0 k : Nat) {dn : List Nat → Bool} (h : ∀ s, s < 2 ^ k → dn (kyS C s k) = false) (y : Int) : allG C c0 k dn y = 0 := by
  unfold allG
  rw [sumS_congr (g := fun _ => 0) fun s hs => by rw [h s hs]; rfl, sumS_zero]
theorem allG_step (C : List Cr) (c0 k : Nat) (T : List Nat) {dn dn' : List Nat → Bool} (h0 : dn T = false) (h : ∀ s, dn' (kyS C s k) = true ↔ dn (kyS C s k) = true ∨ kyS C s k = T) (y : Int) : allG C c0 k dn' y = allG C c0 k dn y + mS C c0 k T y := by
  unfold allG mS
  rw [sumS_more (F := fun s => wS C c0 s k y) (P := fun s => dn (kyS C s k)) (Q := fun s => decide (kyS C s k = T)) (R := fun s => dn' (kyS C s k)) (fun s _ => by rw [h s]; simp) (fun s _ e => by have := of_decide_eq_true e.2; rw [this, h0] at e; simp at e)]
  congr 1
  exact sumS_congr fun s _ => by simp
/-- Bounds. -/
theorem clos_le (C : List Cr) (s : Nat) : ∀ k, closP (prS (arQ C) s) (2 * k) ≤ 2 * k
  | 0 => Nat.le_refl _
  | k + 1 => by
    have := clos_le C s k
    have a := c4_le (kyS C s k) (arQ C k 0) (arQ C k 1) (arQ C k 2) (arQ C k 3)
    have b := c4_le (kyS C s k) (arQ C k 1) (arQ C k 2) (arQ C k 3) (arQ C k 0)
    rw [clos_next]; unfold cA cB; split <;> omega
theorem w_bd (C : List Cr) (c0 s k : Nat) (y : Int) : (wS C c0 s k y).natAbs ≤ 2 ^ (c0 + 2 * k) := by
  have h := dlN_bd one_bd (c0 + closP (prS (arQ C) s) (2 * k)) (y - exS s k)
  rw [Nat.mul_one] at h
  exact Nat.le_trans h (Nat.pow_le_pow_right (by omega) (by have := clos_le C s k; omega))
theorem m_bd (C : List Cr) (c0 k : Nat) (T : List Nat) (y : Int) : (mS C c0 k T y).natAbs ≤ 2 ^ (c0 + 3 * k) := by
  refine Nat.le_trans (sumS_bd (H := 2 ^ (c0 + 2 * k)) fun s _ => ?_) ?_
  · by_cases e : kyS C s k = T
    · rw [if_pos e]; exact w_bd C c0 s k y
    · rw [if_neg e]; exact Nat.zero_le _
  · rw [← Nat.pow_add]; exact Nat.pow_le_pow_right (by omega) (by omega)
theorem dlw_bd (C : List Cr) (c0 s k c : Nat) (e : Int) (hc : c ≤ 2) (y : Int) : (dlN c (shA e (wS C c0 s k)) y).natAbs ≤ 2 ^ (c0 + 2 * k + 2) := by
  have h := dlN_bd (f := shA e (wS C c0 s k)) (H := 2 ^ (c0 + 2 * k)) (fun y => w_bd C c0 s k (y - e)) c y
  rw [← Nat.pow_add] at h
  exact Nat.le_trans h (Nat.pow_le_pow_right (by omega) (by omega))
theorem undG_bd (C : List Cr) (c0 k : Nat) (dn : List Nat → Bool) (U : List Nat) (y : Int) : (undG C c0 k dn U y).natAbs ≤ 2 ^ (c0 + 3 * k + 3) := by
  refine Nat.le_trans (sumS_bd (H := 2 ^ (c0 + 2 * k + 3)) fun s _ => ?_) ?_
  · have a := dlw_bd C c0 s k (cA C k (kyS C s k)) 1 (c4_le _ _ _ _ _) y
    have b := dlw_bd C c0 s k (cB C k (kyS C s k)) (-1) (c4_le _ _ _ _ _) y
    have e : 2 ^ (c0 + 2 * k + 3) = 2 ^ (c0 + 2 * k + 2) + 2 ^ (c0 + 2 * k + 2) := by rw [Nat.pow_succ]; omega
    unfold undF
    split
    · split <;> split <;> omega
    · exact Nat.zero_le _
  · rw [← Nat.pow_add]; exact Nat.pow_le_pow_right (by omega) (by omega)
theorem allG_bd (C : List Cr) (c0 k : Nat) (dn : List Nat → Bool) (y : Int) : (allG C c0 k dn y).natAbs ≤ 2 ^ (c0 + 3 * k) := by
  refine Nat.le_trans (sumS_bd (H := 2 ^ (c0 + 2 * k)) fun s _ => ?_) ?_
  · split
    · exact w_bd C c0 s k y
    · exact Nat.zero_le _
  · rw [← Nat.pow_add]; exact Nat.pow_le_pow_right (by omega) (by omega)
/-- The bracket as the document tells it: states, and rings by labels. -/
def rgS (C : List Cr) (loops s : Nat) : Nat := 2 * C.length + loops - joinP (prS (arN C) s) (2 * C.length)
def brS (C : List Cr) (loops : Nat) : Int → Int := fun y => sumS (2 ^ C.length) fun s => shA (exS s C.length) (dlN (rgS C loops s - 1) oneA) y
theorem br_same {C : List Cr} {l : Int} {loops : Nat} (hm : mayD C l = true) (_hl : l = loops) (h12 : C.length ≤ 12) : allS C (if C.length = 0 then loops - 1 else loops) C.length = brS C loops := by
  funext y
  refine sumS_congr fun s _ => ?_
  unfold wS rgS
  by_cases h0 : C.length = 0
  · rw [if_pos h0, h0]
    have e1 : loops - 1 + closP (prS (arQ C) s) (2 * 0) = loops - 1 := rfl
    have e2 : 2 * 0 + loops - joinP (prS (arN C) s) (2 * 0) - 1 = loops - 1 := by
      have : joinP (prS (arN C) s) (2 * 0) = 0 := rfl
      rw [this]; omega
    rw [e1, e2]
  · rw [if_neg h0]
    have h := rings_cut hm h12 (by omega) s
    congr 2; congr 1; omega
end Go.Proofs.YtnlcknlodjjdbaaDoor
/- A drawing in a world; the walks of Drawing.Above, Drawing.Leaving and Drawing.Ahead. -/
namespace Go.Proofs.YtnlcknlodjjdbaaDoor
open Go.RowKit

theorem alloc_at {w : World} {o : Obj} {k : Nat} (h : k = w.heap.size) : (w.alloc o).heap[k]? = some o := by
  rw [h]
  exact Array.getElem?_push_size
theorem alloc_old {w : World} {o p : Obj} {k : Nat} (h : w.heap[k]? = some p) : (w.alloc o).heap[k]? = some p := by
  have hk : k < w.heap.size := (Array.getElem?_eq_some_iff.1 h).1
  exact ((World.grownBy_alloc w o none).block k hk (by simp)).trans h
/-- A drawing of the crossings C in a world: its crossings, and its two lists of spots. -/
structure Dr (w : World) (a : Option Addr) (cap : Nat) (C : List Cr) (gF gT : Nat) : Prop where
  crs : Crs w w.heap.size (.slice a C.length cap) C
  ltF : gF < w.heap.size
  ltT : gT < w.heap.size
  from_ : TermsAt w gF 0 (ends C false C.length 0)
  to : TermsAt w gT 0 (ends C true C.length 0)
theorem Crs.on {w w' : World} {B : Nat} {v : Value} {C : List Cr} (h : Crs w B v C) (hb : Below B w w') : Crs w' B v C := by
  obtain ⟨a, cap, rfl, hn, g⟩ := h
  refine ⟨a, cap, rfl, hn, fun h0 => ?_⟩
  obtain ⟨b, off, rfl, hlt, hC⟩ := g h0
  exact ⟨b, off, rfl, hlt, hC.on hb hlt⟩
theorem Crs.mono {w : World} {B B' : Nat} {v : Value} {C : List Cr} (h : Crs w B v C) (hB : B ≤ B') : Crs w B' v C := by
  obtain ⟨a, cap, rfl, hn, g⟩ := h
  refine ⟨a, cap, rfl, hn, fun h0 => ?_⟩
  obtain ⟨b, off, rfl, hlt, hC⟩ := g h0
  exact ⟨b, off, rfl, Nat.lt_of_lt_of_le hlt hB, hC⟩
theorem Crs.up {w w' : World} {v : Value} {C : List Cr} (h : Crs w w.heap.size v C) (hb : Below w.heap.size w w') : Crs w' w'.heap.size v C := (h.on hb).mono hb.size
theorem Dr.on {w w' : World} {a : Option Addr} {cap : Nat} {C : List Cr} {gF gT : Nat} (h : Dr w a cap C gF gT) (hb : Below w.heap.size w w') : Dr w' a cap C gF gT :=
  ⟨h.crs.up hb, Nat.lt_of_lt_of_le h.ltF hb.size, Nat.lt_of_lt_of_le h.ltT hb.size, h.from_.on hb h.ltF, h.to.on hb h.ltT⟩
theorem Dr.cross {w : World} {a : Option Addr} {cap : Nat} {C : List Cr} {gF gT : Nat} (h : Dr w a cap C gF gT) (hp : 0 < C.length) : ∃ b off, a = some ⟨b, off, none⟩ ∧ b < w.heap.size ∧ CrossAt w b off C := by
  obtain ⟨a', cap', e, _, g⟩ := h.crs
  injection e with e1 e2 e3
  obtain ⟨b, off, h1, h2, h3⟩ := g hp
  exact ⟨b, off, by rw [e1, h1], h2, h3⟩
/-- The drawing as a value. -/
def drV (a : Option Addr) (cap : Nat) (C : List Cr) (loops : Int) (gF cF gT cT : Nat) : Value := .agg #[.slice a C.length cap, .int .i64 loops, .slice (some ⟨gF, 0, none⟩) (2 * C.length + 1) cF, .slice (some ⟨gT, 0, none⟩) (2 * C.length + 1) cT]

set_option maxHeartbeats 1000000 in
set_option maxRecDepth 100000 in
theorem across_any (i : Int) (k : Nat) (w : World) (hk : k < 4) :
    Calls Tryd.prog 41 #[.agg #[.int .i64 i, .int .i64 k]] w fun e w' => e = .returned (.agg #[.int .i64 i, .int .i64 ((k + 2) % 4 : Nat)]) ∧ Below w.heap.size w w' := by
  obtain ⟨k2, hk2⟩ : ∃ k2 : Nat, k2 = (k + 2) % 4 := ⟨_, rfl⟩
  have e1 : IntKind.i64.wrap ((k : Int) + 2) = (k : Int) + 2 := IntWalk.i64_in _ (by omega)
  have e2 : ((k : Int) + 2).tmod 4 = (k2 : Int) := by rw [Int.tmod_eq_emod_of_nonneg (by omega)]; omega
  rw [← hk2]
  clear hk2
  have hB : Below w.heap.size w ((w.alloc (.cells #[.int .i64 i, .int .i64 k] 67)).alloc (.cells #[.int .i64 i, .int .i64 k2] 67)) := below2 _ _ _
  have hG : ((w.alloc (.cells #[.int .i64 i, .int .i64 k] 67)).alloc (.cells #[.int .i64 i, .int .i64 k2] 67)).heap[w.heap.size + 1]? = some (.cells #[.int .i64 i, .int .i64 k2] 67 (0, 0)) := alloc_at (by simp)
  have x0 := block_cell (i := 0) (v := .int .i64 i) hG rfl
  have x1 := block_cell (i := 1) (v := .int .i64 k2) hG rfl
  have HB : Hid (Below w.heap.size w ((w.alloc (.cells #[.int .i64 i, .int .i64 k] 67)).alloc (.cells #[.int .i64 i, .int .i64 k2] 67))) := hB
  clear hB hG
  go_enter Tryd.func41, Tryd.ntmps41
  go_wp2
  exact bodyPost_ret (v := .agg #[.int .i64 i, .int .i64 k2]) (by simp [results, Tryd.results41, go_sem, x0, x1]) rfl ⟨rfl, HB.out⟩

set_option maxHeartbeats 1000000 in
set_option maxRecDepth 100000 in
theorem spotAbove_any (i : Int) (k : Nat) (w : World) (hk : k < 4) :
    Calls Tryd.prog 43 #[.agg #[.int .i64 i, .int .i64 k]] w fun e w' => e = .returned (.bool (decide (k % 2 = 1))) ∧ Below w.heap.size w w' := by
  go_enter Tryd.func43, Tryd.ntmps43
  go_wp2
  · go_ret
    have hk1 : k = 1 := by omega
    subst hk1
    exact ⟨rfl, (Below.refl _ _).alloc (Nat.le_refl _) _⟩
  · go_ret
    refine ⟨?_, (Below.refl _ _).alloc (Nat.le_refl _) _⟩
    have hk5 : k = 0 ∨ k = 1 ∨ k = 2 ∨ k = 3 := by omega
    rcases hk5 with rfl | rfl | rfl | rfl <;> rfl

set_option maxHeartbeats 4000000 in
set_option maxRecDepth 100000 in
theorem leaving_any (b off cap : Nat) (C : List Cr) (loops : Int) (vF vT : Value) (i k : Nat) (w : World) (hi : i < C.length) (hk : k < 4) (hbw : b < w.heap.size) (hC : CrossAt w b off C) :
    Calls Tryd.prog 79 #[.agg #[.slice (some ⟨b, off, none⟩) C.length cap, .int .i64 loops, vF, vT], .agg #[.int .i64 i, .int .i64 k]] w fun e w' => e = .returned (.agg #[.int .i64 ((C.getD i Cr.none).arc k), .bool ((C.getD i Cr.none).comes k)]) ∧ Below w.heap.size w w' := by
  obtain ⟨c0, c1, c2, c3, c4⟩ := hC i hi
  clear hC
  generalize C.getD i Cr.none = x at c0 c1 c2 c3 c4
  have hB3 : Below w.heap.size w (((w.alloc (.cells #[.slice (some ⟨b, off, none⟩) C.length cap, .int .i64 loops, vF, vT] 50)).alloc (.cells #[.int .i64 i, .int .i64 k] 67)).alloc (.cells #[.int .i64 0, .bool false] 115)) := below3 _ _ _ _
  have e0 := bcell hB3 hbw c0
  have e1 := bcell hB3 hbw c1
  have e2 := bcell hB3 hbw c2
  have e3 := bcell hB3 hbw c3
  have e4 := bcell hB3 hbw c4
  clear hB3 c0 c1 c2 c3 c4
  go_enter Tryd.func79, Tryd.ntmps79
  go_wp2
  clear e0 e1 e2 e3 e4
  obtain ⟨W0, hW0⟩ : ∃ W0, W0 = (((w.alloc (.cells #[.slice (some ⟨b, off, none⟩) C.length cap, .int .i64 loops, vF, vT] 50)).alloc (.cells #[.int .i64 i, .int .i64 k] 67)).alloc (.cells #[.int .i64 0, .bool false] 115)).alloc (.cells #[.int .i64 x.a, .int .i64 x.b, .int .i64 x.c, .int .i64 x.d, .bool x.plus] 79) := ⟨_, rfl⟩
  rw [← hW0]
  have hs0 : W0.heap.size = w.heap.size + 4 := by rw [hW0]; simp
  have HB0 : Hid (Below w.heap.size w W0) := (by rw [hW0]; exact (below3 _ _ _ _).alloc (by simp; omega) _ : Below w.heap.size w W0)
  have HT1 : Hid (W0.heap[w.heap.size + 1]? = some (.cells #[.int .i64 i, .int .i64 k] 67 (0, 0))) := (by rw [hW0]; exact alloc_old (alloc_old (alloc_at (by simp))) : W0.heap[w.heap.size + 1]? = some (.cells #[.int .i64 i, .int .i64 k] 67 (0, 0)))
  have HT2 : Hid (W0.heap[w.heap.size + 1 + 1]? = some (.cells #[.int .i64 0, .bool false] 115 (0, 0))) := (by rw [hW0]; exact alloc_old (alloc_at (by simp)) : W0.heap[w.heap.size + 1 + 1]? = some (.cells #[.int .i64 0, .bool false] 115 (0, 0)))
  have HT3 : Hid (W0.heap[w.heap.size + 1 + 1 + 1]? = some (.cells #[.int .i64 x.a, .int .i64 x.b, .int .i64 x.c, .int .i64 x.d, .bool x.plus] 79 (0, 0))) := (by rw [hW0]; exact alloc_at (by simp) : W0.heap[w.heap.size + 1 + 1 + 1]? = some (.cells #[.int .i64 x.a, .int .i64 x.b, .int .i64 x.c, .int .i64 x.d, .bool x.plus] 79 (0, 0)))
  clear hW0
  have HF : Hid (∀ w', Below W0.heap.size W0 w' → w'.cell? ⟨w.heap.size + 1 + 1 + 1, 0, none⟩ = some (.int .i64 x.a) ∧ w'.cell? ⟨w.heap.size + 1 + 1 + 1, 1, none⟩ = some (.int .i64 x.b) ∧ w'.cell? ⟨w.heap.size + 1 + 1 + 1, 2, none⟩ = some (.int .i64 x.c) ∧ w'.cell? ⟨w.heap.size + 1 + 1 + 1, 3, none⟩ = some (.int .i64 x.d) ∧ w'.cell? ⟨w.heap.size + 1 + 1 + 1, 4, none⟩ = some (.bool x.plus) ∧ w'.cell? ⟨w.heap.size + 1, 1, none⟩ = some (.int .i64 k)) := fun w' hb => by
    have g3 := (hb.block _ (by omega)).trans HT3.out
    have g1 := (hb.block _ (by omega)).trans HT1.out
    exact ⟨block_cell g3 rfl, block_cell g3 rfl, block_cell g3 rfl, block_cell g3 rfl, block_cell g3 rfl, block_cell g1 rfl⟩
  have HFS : Hid (∀ wX u v, Below W0.heap.size W0 wX → (fun w' => w'.cell? ⟨w.heap.size + 1 + 1 + 1, 0, none⟩ = some (.int .i64 x.a) ∧ w'.cell? ⟨w.heap.size + 1 + 1 + 1, 1, none⟩ = some (.int .i64 x.b) ∧ w'.cell? ⟨w.heap.size + 1 + 1 + 1, 2, none⟩ = some (.int .i64 x.c) ∧ w'.cell? ⟨w.heap.size + 1 + 1 + 1, 3, none⟩ = some (.int .i64 x.d) ∧ w'.cell? ⟨w.heap.size + 1 + 1 + 1, 4, none⟩ = some (.bool x.plus) ∧ w'.cell? ⟨w.heap.size + 1, 1, none⟩ = some (.int .i64 k)) (st2 wX (w.heap.size + 1 + 1) 0 u v)) := fun wX u v hb => by
    have hg := st2_grown wX (w.heap.size + 1 + 1) 0 u v
    have hsz := hb.size
    have g3 := (hg.block (w.heap.size + 1 + 1 + 1) (by omega) (fun e => by have := Option.some.inj e; omega)).trans ((hb.block _ (by omega)).trans HT3.out)
    have g1 := (hg.block (w.heap.size + 1) (by omega) (fun e => by have := Option.some.inj e; omega)).trans ((hb.block _ (by omega)).trans HT1.out)
    exact ⟨block_cell g3 rfl, block_cell g3 rfl, block_cell g3 rfl, block_cell g3 rfl, block_cell g3 rfl, block_cell g1 rfl⟩
  have HZ : Hid (∀ wX, Below W0.heap.size W0 wX → wX.cell? ⟨w.heap.size + 1 + 1, 0, none⟩ = some (.int .i64 0) ∧ wX.cell? ⟨w.heap.size + 1 + 1, 1, none⟩ = some (.bool false) ∧ wX.frozen? ⟨w.heap.size + 1 + 1, 0, none⟩ = false ∧ wX.frozen? ⟨w.heap.size + 1 + 1, 1, none⟩ = false) := fun wX hb => by
    have g2 := (hb.block _ (by omega)).trans HT2.out
    exact ⟨block_cell g2 rfl, block_cell g2 rfl, block_frozen g2, block_frozen g2⟩
  have HD0 : Hid (Below W0.heap.size W0 W0.drew) := (Below.refl _ _).drew
  obtain ⟨t0, t1, t2, t3, t4, t5⟩ := HF.out W0 (Below.refl _ _)
  have hix := index_arr x k hk
  go_region_held3 (fun w' => w'.cell? ⟨w.heap.size + 1 + 1 + 1, 0, none⟩ = some (.int .i64 x.a) ∧ w'.cell? ⟨w.heap.size + 1 + 1 + 1, 1, none⟩ = some (.int .i64 x.b) ∧ w'.cell? ⟨w.heap.size + 1 + 1 + 1, 2, none⟩ = some (.int .i64 x.c) ∧ w'.cell? ⟨w.heap.size + 1 + 1 + 1, 3, none⟩ = some (.int .i64 x.d) ∧ w'.cell? ⟨w.heap.size + 1 + 1 + 1, 4, none⟩ = some (.bool x.plus) ∧ w'.cell? ⟨w.heap.size + 1, 1, none⟩ = some (.int .i64 k)) (first | exact HF.out _ HY.out | exact HF.out _ HA.out | exact HF.out _ HD0.out | exact HF.out _ (Below.refl _ _) | exact HFS.out _ _ _ HY.out | exact HFS.out _ _ _ HA.out) (first
    | (go_at_call 35; refine (arcs_any x _).mono ?_; rintro e9 wA ⟨rfl, hbA⟩
       first
         | have HA : Hid (Below W0.heap.size W0 wA) := HY.out.trans (hbA.mono HY.out.size)
         | have HA : Hid (Below W0.heap.size W0 wA) := HD0.out.trans hbA
       obtain ⟨a0, a1, a2, a3, a4, a5⟩ := HF.out wA HA.out
       obtain ⟨b0, b1, b2, b3⟩ := HZ.out wA HA.out
       clear hbA)
    | (go_at_call 55; refine (comesIn_any x k _ hk).mono ?_; rintro e9 wC ⟨rfl, hbC⟩
       first
         | have HY : Hid (Below W0.heap.size W0 wC) := HA.out.trans (hbC.mono HA.out.size)
         | have HY : Hid (Below W0.heap.size W0 wC) := HD0.out.trans hbC
       obtain ⟨p0, p1, p2, p3, p4, p5⟩ := HF.out wC HY.out
       obtain ⟨q0, q1, q2, q3⟩ := HZ.out wC HY.out
       clear hbC))
  all_goals first
    | (have hX := set_block (i := 1) (u := .bool (x.comes k)) (set_block (i := 0) (u := .int .i64 (x.arc k)) ((HY.out.block _ (by omega)).trans HT2.out))
       have x0 := block_cell (i := 0) (v := .int .i64 (x.arc k)) hX rfl
       have x1 := block_cell (i := 1) (v := .bool (x.comes k)) hX rfl
       go_wp2
       exact bodyPost_ret (v := .agg #[.int .i64 (x.arc k), .bool (x.comes k)]) (by simp [results, Tryd.results79, go_sem, x0, x1]) rfl ⟨rfl, (HB0.out.trans (HY.out.mono (by omega))).grown (st2_grown wC (w.heap.size + 1 + 1) 0 (.int .i64 (x.arc k)) (.bool (x.comes k))) (by have := HY.out.size; omega) (fun q hq => by have := Option.some.inj hq; omega)⟩)
    | (have hX := set_block (i := 1) (u := .bool (x.comes k)) (set_block (i := 0) (u := .int .i64 (x.arc k)) ((HA.out.block _ (by omega)).trans HT2.out))
       have x0 := block_cell (i := 0) (v := .int .i64 (x.arc k)) hX rfl
       have x1 := block_cell (i := 1) (v := .bool (x.comes k)) hX rfl
       go_wp2
       exact bodyPost_ret (v := .agg #[.int .i64 (x.arc k), .bool (x.comes k)]) (by simp [results, Tryd.results79, go_sem, x0, x1]) rfl ⟨rfl, (HB0.out.trans (HA.out.mono (by omega))).grown (st2_grown wA (w.heap.size + 1 + 1) 0 (.int .i64 (x.arc k)) (.bool (x.comes k))) (by have := HA.out.size; omega) (fun q hq => by have := Option.some.inj hq; omega)⟩)

end Go.Proofs.YtnlcknlodjjdbaaDoor
/- The walk of ref.EndOf. -/
namespace Go.Proofs.YtnlcknlodjjdbaaDoor
open Go.RowKit

theorem may_size {C : List Cr} {loops : Int} (hm : mayD C loops = true) : sizeB C loops = true := by
  cases hs : sizeB C loops with
  | true => rfl
  | false => rw [mayD_size hs] at hm; cases hm

end Go.Proofs.YtnlcknlodjjdbaaDoor
/- A row that is taken from at its head and appended to at its end: in the world, and the step of append upon it. -/
namespace Go.Proofs.YtnlcknlodjjdbaaDoor
open Go.RowKit

/-- A row of one-celled values of the call's own, that begins somewhere in its block. -/
def QueAt (w : World) (base : Nat) (e : TypeId) (v : Value) (xs : List Value) : Prop :=
  ∃ g off cap cur, v = .slice (some ⟨g, off, none⟩) xs.length cap ∧ base ≤ g ∧ w.heap[g]? = some (.cells cur e (0, 0)) ∧ xs.length ≤ cap ∧ cap ≤ maxLen ∧ off + cap ≤ cur.size ∧ (cur.toList.drop off).take xs.length = xs
theorem QueAt.kept {w w' : World} {base : Nat} {e : TypeId} {v : Value} {xs : List Value} {row : Option Nat} (h : QueAt w base e v xs) (hg : w.grownBy w' row) (hne : v.ownBlock ≠ row) : QueAt w' base e v xs := by
  obtain ⟨g, off, cap, cur, rfl, hb, hgg, rest⟩ := h
  refine ⟨g, off, cap, cur, rfl, hb, ?_, rest⟩
  rw [hg.block g (Array.getElem?_eq_some_iff.1 hgg).1 (by simpa [Value.ownBlock] using hne)]
  exact hgg
theorem QueAt.lt {w : World} {base : Nat} {e : TypeId} {v : Value} {xs : List Value} (h : QueAt w base e v xs) : ∀ k, v.ownBlock = some k → base ≤ k ∧ k < w.heap.size := by
  intro k hk
  obtain ⟨g, off, cap, cur, rfl, hb, hgg, rest⟩ := h
  have e := Option.some.inj hk
  have e2 : g = k := e
  subst e2
  exact ⟨hb, (Array.getElem?_eq_some_iff.1 hgg).1⟩
theorem QueAt.shape {w : World} {base : Nat} {e : TypeId} {v : Value} {xs : List Value} (h : QueAt w base e v xs) : ∃ g off cap, v = .slice (some ⟨g, off, none⟩) xs.length cap ∧ xs.length ≤ cap := by
  obtain ⟨g, off, cap, cur, rfl, _, _, h2, _⟩ := h
  exact ⟨g, off, cap, rfl, h2⟩
theorem QueAt.size {w : World} {base g off n cap : Nat} {e : TypeId} {xs : List Value} (h : QueAt w base e (.slice (some ⟨g, off, none⟩) n cap) xs) : n = xs.length ∧ n ≤ cap ∧ cap ≤ maxLen ∧ base ≤ g ∧ g < w.heap.size := by
  obtain ⟨g', off', cap', cur, ev, hb, hgg, h1, h2, _⟩ := h
  injection ev with e1 e2 e3
  injection e1 with e1
  injection e1 with e4 e5
  subst e4 e2 e3
  exact ⟨rfl, h1, h2, hb, (Array.getElem?_eq_some_iff.1 hgg).1⟩
theorem QueAt.cell {w : World} {base g off n cap : Nat} {e : TypeId} {xs : List Value} (h : QueAt w base e (.slice (some ⟨g, off, none⟩) n cap) xs) (j : Nat) (u : Value) (hj : xs[j]? = some u) : w.cell? ⟨g, off + j, none⟩ = some u := by
  obtain ⟨g', off', cap', cur, ev, hb, hgg, h1, h2, h3, h4⟩ := h
  injection ev with e1 e2 e3
  injection e1 with e1
  injection e1 with e4 e5
  subst e4 e5
  rw [cell_of_row w g _ cur e (0, 0) hgg]
  rw [← h4, List.getElem?_take] at hj
  split at hj
  · rw [List.getElem?_drop] at hj
    simpa using hj
  · cases hj
/-- Its first is taken away. -/
theorem QueAt.tail {w : World} {base g off n cap : Nat} {e : TypeId} {x : Value} {xs : List Value} (h : QueAt w base e (.slice (some ⟨g, off, none⟩) n cap) (x :: xs)) : QueAt w base e (.slice (some ⟨g, off + 1, none⟩) (n - 1) (cap - 1)) xs := by
  obtain ⟨g', off', cap', cur, ev, hb, hgg, h1, h2, h3, h4⟩ := h
  injection ev with e1 e2 e3
  injection e1 with e1
  injection e1 with e4 e5
  subst e4 e5 e3
  simp only [List.length_cons] at e2 h1 h4
  refine ⟨g, off + 1, cap - 1, cur, by rw [e2]; simp, hb, hgg, by omega, by omega, by omega, ?_⟩
  have h5 : ((cur.toList.drop off).take (xs.length + 1)).drop 1 = xs := by rw [h4]; rfl
  rw [List.drop_take, List.drop_drop] at h5
  simpa using h5
/-- Its only one is taken away, and there is no room behind it. -/
theorem QueAt.tail1 {w : World} {base g off n : Nat} {e : TypeId} {x : Value} {xs : List Value} (h : QueAt w base e (.slice (some ⟨g, off, none⟩) n 1) (x :: xs)) : QueAt w base e (.slice (some ⟨g, off, none⟩) (n - 1) 0) xs ∧ xs = [] := by
  obtain ⟨g', off', cap', cur, ev, hb, hgg, h1, h2, h3, h4⟩ := h
  injection ev with e1 e2 e3
  injection e1 with e1
  injection e1 with e4 e5
  subst e4 e5 e3
  simp only [List.length_cons] at e2 h1 h4
  have hx : xs = [] := List.length_eq_zero_iff.1 (by omega)
  subst hx
  exact ⟨⟨g, off, 0, cur, by rw [e2]; simp, hb, hgg, Nat.zero_le _, Nat.zero_le _, by omega, by simp⟩, rfl⟩
theorem QueAt.made {w : World} {base g n cap : Nat} {e : TypeId} {xs : List Value} (h : w.ownsRow base e 1 (.slice (some ⟨g, 0, none⟩) n cap) n xs) : QueAt w base e (.slice (some ⟨g, 0, none⟩) n cap) xs := by
  obtain ⟨hl, h⟩ := h
  rcases h with ⟨h, _⟩ | ⟨g', cap', cur, ev, hb, hgg, h1, h2, h3, h4⟩
  · cases h
  · injection ev with e1 e2 e3
    injection e1 with e1
    injection e1 with e4
    subst e4 e3
    rw [Nat.mul_one] at hl h3 h4
    exact ⟨g, 0, cap, cur, by rw [hl], hb, hgg, by omega, h2, by omega, by rw [hl]; simpa using h4⟩

theorem run_append_que {P : Program} (w : World) (base : Nat) (t ty e : TypeId) (i : TypeInfo) (z : Value) (bytes : Nat) (ht : P.underlying t = some (.slice e)) (hi : P.info? e = some i) (hz : i.zero = some z)
    (hsize : i.size = 1) (hby : i.bytes = bytes) (hzs : z.cells.size = 1)
    (v : Value) (xs : List Value) (hown : QueAt w base e v xs)
    (a : Addr) (c : Nat) (u : Value) (hnews : w.cell? a = some u) (h1 : u.oneCell' = true)
    (h63 : xs.length + 1 ≤ maxLen) (hbytes : (xs.length + 1) * bytes ≤ 140737488355328) (hbase : base ≤ w.heap.size) :
    ∃ v' w', (Builtin.append_ #[t, t] ty #[v, .slice (some a) 1 c]).run P w = .ok v' w' ∧ QueAt w' base e v' (xs ++ [u]) ∧ w.grownBy w' v.ownBlock := by
  subst hby
  have hsmall : xs.length + 1 ≤ 9223372036854775807 := by simp only [maxLen] at h63; omega
  have hl : [u].length = 1 * i.size := by rw [hsize]; rfl
  have hcells : ∀ j v, [u][j]? = some v → w.cell? (a.add j) = some v := by
    intro j v hj
    cases j with
    | zero =>
      have e : v = u := by simpa using hj.symm
      subst e
      have ha : a.add 0 = a := by unfold Addr.add; split <;> simp_all
      rw [ha]
      exact hnews
    | succ j => simp at hj
  obtain ⟨g, off, cap, cur, rfl, hb, hgg, hnc, hcm, hcs, htake⟩ := hown
  by_cases hroom : xs.length + 1 ≤ cap
  · have hf := run_firstCells_some (P := P) w i.size 1 a 1 c [u] hl hcells
    have hst := run_storeCells_at P g (off + xs.length) e [u] 0 cur w hgg (by simp; omega) (by simpa using h1)
    simp only [Nat.add_zero] at hst
    refine ⟨.slice (some ⟨g, off, none⟩) (xs.length + 1) cap, w.setRow g (cur.toList.take (off + xs.length) ++ [u] ++ cur.toList.drop (off + xs.length + [u].length)).toArray, ?_, ⟨g, off, cap, _, by simp, hb, setRow_heap w g cur _ e _ hgg, by simpa using hroom, hcm, ?_, ?_⟩, ⟨rfl, rfl, rfl, by simp, fun k _ hk => setRow_other w g k _ (fun e => hk (by simp [Value.ownBlock, e]))⟩⟩
    · rw [hsize] at hf
      simp [Builtin.append_, run_underlying ht, sizeOf, typeInfo, hi, hsize, Builtin.lenOf, hroom, hf, Addr.add_lit]
      simp at hst
      simp [hst]
    · simp only [List.size_toArray, List.length_append, List.length_take, List.length_drop, Array.length_toList, List.length_cons, List.length_nil]
      omega
    · have h5 : (cur.toList.take (off + xs.length)).drop off = xs := by rw [List.drop_take, Nat.add_sub_cancel_left]; exact htake
      simp only [List.append_assoc]
      rw [List.drop_append_of_le_length (by simp; omega), h5, ← List.append_assoc]
      exact List.take_left
  · have holds : ∀ j v, xs[j]? = some v → w.cell? ((⟨g, off, none⟩ : Addr).add j) = some v := fun j v hj => by
      have hadd : (⟨g, off, none⟩ : Addr).add j = ⟨g, off + j, none⟩ := by unfold Addr.add; split <;> simp_all
      rw [hadd]
      exact QueAt.cell (⟨g, off, cap, cur, rfl, hb, hgg, hnc, hcm, hcs, htake⟩ : QueAt w base e (.slice (some ⟨g, off, none⟩) xs.length cap) xs) j v hj
    have hr := run_append_grow (P := P) w t ty e i z ht hi hz ⟨g, off, none⟩ xs.length cap xs (by rw [hsize, Nat.mul_one]) holds a 1 c [u] hl hcells (by omega) (by omega) (growslice_fits (by omega) hbytes)
    have hge := grownCap_ge w (xs.length + 1) cap e
    refine ⟨_, _, hr, ⟨w.heap.size, 0, _, _, by simp, hbase, heap_alloc_new w.drew _, by simpa using hge, grownCap_le_maxLen w (xs.length + 1) cap e h63, ?_, ?_⟩, ⟨rfl, rfl, rfl, by simp, fun k hk _ => Array.getElem?_push_lt hk ▸ (Array.getElem?_eq_getElem hk).symm⟩⟩
    · simp only [Array.size_append, List.size_toArray, size_zeroCells, hzs, List.length_cons, List.length_nil]
      omega
    · simp only [Array.toList_append, List.drop_zero]
      exact List.take_left

theorem wpList_append_que {P : Program} (w : World) {ops : Array Oper} {rest : List Oper} {o : Oper} {a : Act} {Q : Exit → Act → World → Prop} (hgd : o.guard = none) (s x : Operand) (t : TypeId)
    (ho : o.op = .call { callee := .builtin .append, args := #[s, x], argTypes := #[t, t] })
    (base : Nat) (e : TypeId) (i : TypeInfo) (z : Value) (bytes : Nat) (ht : P.underlying t = some (.slice e)) (hi : P.info? e = some i) (hz : i.zero = some z)
    (hsize : i.size = 1) (hby : i.bytes = bytes) (hzs : z.cells.size = 1)
    (v : Value) (xs : List Value) (hs : a.eval s = v) (hown : QueAt w base e v xs)
    (ad : Addr) (c : Nat) (u : Value) (hx : a.eval x = .slice (some ad) 1 c) (hnews : w.cell? ad = some u) (h1 : u.oneCell' = true)
    (h63 : xs.length + 1 ≤ maxLen) (hbytes : (xs.length + 1) * bytes ≤ 140737488355328) (hbase : base ≤ w.heap.size)
    (h : ∀ v' w', QueAt w' base e v' (xs ++ [u]) → w.grownBy w' v.ownBlock → wpList P ops Q rest (a.put o.dst v') w') : wpList P ops Q (o :: rest) a w := by
  refine wpList_plain hgd fun _ hK => ?_
  obtain ⟨v', w', hr, h2, h3⟩ := run_append_que (P := P) w base t o.type e i z bytes ht hi hz hsize hby hzs v xs hown ad c u hnews h1 h63 hbytes hbase
  unfold Oper.wp execOp
  simp only [ho, resolve, invoke, builtin, Sem.run_bind, Sem.run_pure, Result.andThen_ok, List.map_toArray, List.map_cons, List.map_nil, hs, hx, hr]
  exact hK _ _ (h v' w' h2 h3)
end Go.Proofs.YtnlcknlodjjdbaaDoor
