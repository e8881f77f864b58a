/- Several texts of the proof, one behind the other. -/
import Derived.Test.YtlcogbcpmneknaaW6P
import Derived.Test.YtlcogbcpmneknaaSYf
/- A table of rows in blocks of their own, of any capacity: as it grows, is changed, is traded; the walk of ref.SquaresOf wants it. -/
namespace Go.Proofs.Ytlcogbcpmneknaa
open Go.RowKit Go.Maps

def rwV (n : Nat) (gs cs : Nat → Nat) (i : Nat) : Value := .slice (some ⟨gs i, 0, none⟩) n (cs i)
def hdV (k n : Nat) (gs cs : Nat → Nat) : List Value := (List.range k).map (rwV n gs cs)
theorem hdV_len (k n : Nat) (gs cs : Nat → Nat) : (hdV k n gs cs).length = k := by simp [hdV]
theorem hdV_get (k n : Nat) (gs cs : Nat → Nat) (i : Nat) (h : i < k) : (hdV k n gs cs)[i]? = some (rwV n gs cs i) := by simp [hdV, h]
/-- k rows of n numbers each. -/
structure TabV (B k n : Nat) (gs cs : Nat → Nat) (T : Nat → Nat → Int) (v : Value) (W : World) : Prop where
  outer : W.ownsRow B 41 1 v k (hdV k n gs cs)
  rows : ∀ i, i < k → W.ownsRow B 3 1 (rwV n gs cs i) n (intsV (mapI n (T i)))
  inj : ∀ i j, i < k → j < k → gs i = gs j → i = j
theorem TabV.any {B k n : Nat} {gs cs : Nat → Nat} {T : Nat → Nat → Int} {v : Value} {W W' : World} (h : TabV B k n gs cs T v W) (hg : W.grownBy W' none) : TabV B k n gs cs T v W' :=
  ⟨own_any h.outer hg, fun i hi => own_any (h.rows i hi) hg, h.inj⟩
theorem TabV.congr {B k n : Nat} {gs cs : Nat → Nat} {T T' : Nat → Nat → Int} {v : Value} {W : World} (h : TabV B k n gs cs T v W) (e : ∀ x y, x < k → y < n → T' x y = T x y) : TabV B k n gs cs T' v W :=
  ⟨h.outer, fun i hi => by rw [mapI_congr n (T' i) (T i) (fun y hy => e i y hi hy)]; exact h.rows i hi, h.inj⟩
theorem TabV.nil (B n : Nat) (gs cs : Nat → Nat) (T : Nat → Nat → Int) (W : World) : TabV B 0 n gs cs T (.slice none 0 0) W :=
  ⟨World.ownsRow_nil _ _ _ _, fun _ hi => absurd hi (Nat.not_lt_zero _), fun _ _ hi => absurd hi (Nat.not_lt_zero _)⟩
theorem TabV.cellO {B k n gt cap : Nat} {gs cs : Nat → Nat} {T : Nat → Nat → Int} {W : World} (h : TabV B k n gs cs T (.slice (some ⟨gt, 0, none⟩) k cap) W) (i : Nat) (hi : i < k) : W.cell? ⟨gt, i, none⟩ = some (.slice (some ⟨gs i, 0, none⟩) n (cs i)) := by
  rw [h.outer.cellAt i (by omega), hdV_get k n gs cs i hi]; rfl
theorem TabV.cellR {B k n : Nat} {gs cs : Nat → Nat} {T : Nat → Nat → Int} {v : Value} {W : World} (h : TabV B k n gs cs T v W) (i j : Nat) (hi : i < k) (hj : j < n) : W.cell? ⟨gs i, j, none⟩ = some (.int .i64 (T i j)) := by
  rw [(h.rows i hi).cellAt j (by omega), intsV_get _ j (by rw [mapI_len]; exact hj), mapI_at _ _ _ hj]
theorem TabV.set {B k n : Nat} {gs cs : Nat → Nat} {T T' : Nat → Nat → Int} {v : Value} {W : World} (h : TabV B k n gs cs T v W) (i j : Nat) (x : Int) (hi : i < k) (hT : ∀ a b, a < k → b < n → T' a b = if a = i ∧ b = j then x else T a b) :
    TabV B k n gs cs T' v (W.setCell ⟨gs i, j, none⟩ (.int .i64 x)) ∧ W.grownBy (W.setCell ⟨gs i, j, none⟩ (.int .i64 x)) (some (gs i)) := by
  have hst := (h.rows i hi).stored j (.int .i64 x)
  rw [intsV_set] at hst
  refine ⟨⟨h.outer.kept hst.2 (own_ne h.outer (h.rows i hi) (by decide)), fun a ha => ?_, h.inj⟩, hst.2⟩
  by_cases e : a = i
  · subst e
    rw [mapI_set n (T a) (T' a) j x (fun b hb => by rw [hT a b ha hb]; by_cases e : b = j <;> simp [e])] at hst
    exact hst.1
  · have hr := (h.rows a ha).kept hst.2 (Or.inr (fun q => e (h.inj a i ha hi (Option.some.inj q))))
    rw [mapI_congr n (T' a) (T a) (fun b hb => by rw [hT a b ha hb, if_neg (fun q => e q.1)])]
    exact hr
theorem TabV.swap {B k n gt cap : Nat} {gs cs : Nat → Nat} {T : Nat → Nat → Int} {W : World} (h : TabV B k n gs cs T (.slice (some ⟨gt, 0, none⟩) k cap) W) (a b : Nat) (ha : a < k) (hb : b < k) :
    TabV B k n (fun i => gs (tw a b i)) (fun i => cs (tw a b i)) (fun i => T (tw a b i)) (.slice (some ⟨gt, 0, none⟩) k cap) ((W.setCell ⟨gt, a, none⟩ (rwV n gs cs b)).setCell ⟨gt, b, none⟩ (rwV n gs cs a)) ∧ W.grownBy ((W.setCell ⟨gt, a, none⟩ (rwV n gs cs b)).setCell ⟨gt, b, none⟩ (rwV n gs cs a)) (some gt) := by
  have h1 := h.outer.stored a (rwV n gs cs b)
  have h2 := h1.1.stored b (rwV n gs cs a)
  have hg := grown_trans h1.2 h2.2
  have hlt : ∀ i, i < k → tw a b i < k := fun i hi => (tw_range (k := 0) ⟨Nat.zero_le _, ha⟩ ⟨Nat.zero_le _, hb⟩ ⟨Nat.zero_le _, hi⟩).2
  refine ⟨⟨?_, fun i hi => ?_, fun i j hi hj e => ?_⟩, hg⟩
  · have e : ((hdV k n gs cs).set a (rwV n gs cs b)).set b (rwV n gs cs a) = hdV k n (fun i => gs (tw a b i)) (fun i => cs (tw a b i)) := by
      refine List.ext_getElem? fun i => ?_
      rcases Nat.lt_or_ge i k with hi | hi
      · rw [hdV_get k n _ _ i hi]
        simp only [List.getElem?_set, List.length_set, hdV_len]
        show _ = some (rwV n gs cs (tw a b i))
        by_cases e1 : b = i
        · subst e1
          rw [if_pos rfl, if_pos hb, tw_q]
        · by_cases e2 : a = i
          · subst e2
            rw [if_neg e1, if_pos rfl, if_pos ha, tw_p]
          · rw [if_neg e1, if_neg e2, tw_else (Ne.symm e2) (Ne.symm e1), hdV_get k n gs cs i hi]
      · rw [List.getElem?_eq_none (by simp [hdV_len]; omega), List.getElem?_eq_none (by simp [hdV_len]; omega)]
    rw [← e]
    exact h2.1
  · exact (h.rows _ (hlt i hi)).kept hg (own_ne (h.rows _ (hlt i hi)) h.outer (by decide))
  · have h3 := h.inj _ _ (hlt i hi) (hlt j hj) e
    unfold tw at h3
    split at h3 <;> split at h3 <;> (try split at h3) <;> (try split at h3) <;> omega
/-- A row more, by append. -/
theorem TabV.more {B k n g c : Nat} {gs cs : Nat → Nat} {T : Nat → Nat → Int} {v v' : Value} {W W' : World} (h : TabV B k n gs cs T v W) (hr : W.ownsRow B 3 1 (.slice (some ⟨g, 0, none⟩) n c) n (intsV (mapI n (T k)))) (hne : ∀ i, i < k → gs i ≠ g)
    (hg : W.grownBy W' v.ownBlock) (ho : W'.ownsRow B 41 1 v' (k + 1) (hdV k n gs cs ++ [.slice (some ⟨g, 0, none⟩) n c])) : TabV B (k + 1) n (fun i => if i = k then g else gs i) (fun i => if i = k then c else cs i) T v' W' := by
  have e0 : hdV (k + 1) n (fun i => if i = k then g else gs i) (fun i => if i = k then c else cs i) = hdV k n gs cs ++ [.slice (some ⟨g, 0, none⟩) n c] := by
    unfold hdV
    rw [List.range_succ, List.map_append]
    congr 1
    · refine List.map_congr_left fun i hi => ?_
      have h : i ≠ k := by have := List.mem_range.1 hi; omega
      unfold rwV
      dsimp only
      rw [if_neg h, if_neg h]
    · show [rwV _ _ _ k] = _
      unfold rwV
      dsimp only
      rw [if_pos rfl, if_pos rfl]
  refine ⟨by rw [e0]; exact ho, fun i hi => ?_, fun i j hi hj e => ?_⟩
  · by_cases e : i = k
    · subst e
      unfold rwV
      simp only [if_true]
      exact hr.kept hg (own_ne hr h.outer (by decide))
    · unfold rwV
      simp only [if_neg e]
      have h3 := h.rows i (by omega)
      exact h3.kept hg (own_ne h3 h.outer (by decide))
  · have e : (if i = k then g else gs i) = (if j = k then g else gs j) := e
    by_cases e1 : i = k
    · by_cases e2 : j = k
      · omega
      · rw [if_pos e1, if_neg e2] at e; exact absurd e.symm (hne j (by omega))
    · by_cases e2 : j = k
      · rw [if_neg e1, if_pos e2] at e; exact absurd e (hne i (by omega))
      · rw [if_neg e1, if_neg e2] at e; exact h.inj i j (by omega) (by omega) e
theorem TabV.whole {B k n : Nat} {gs cs : Nat → Nat} {T : Nat → Nat → Int} {v : Value} {W : World} (h : TabV B k n gs cs T v W) (hn : 0 < k) : ∃ gt cap, v = .slice (some ⟨gt, 0, none⟩) k cap := by
  rcases h.outer.2 with ⟨_, h0⟩ | ⟨g, cap, cur, hv, _, _, hc, _⟩
  · omega
  · exact ⟨g, cap, hv⟩
/-- What is known hangs on what is left alone. -/
theorem Elm.congr {n m0 k t : Nat} {w : Nat → Int} {U0 M M' U : Nat → Nat → Int} {b sg : Int} {π : Nat → Rat} {Y X : Nat → Nat → Rat} (h : Elm n m0 w U0 k t M b sg U π Y X) (e : ∀ i j, k ≤ i → i < n → k ≤ j → j < n → M' i j = M i j) : Elm n m0 w U0 k t M' b sg U π Y X where
  kn := h.kn
  gd := h.gd
  at_ i j a1 a2 a3 a4 := by rw [e i j a1 a2 a3 a4]; exact h.at_ i j a1 a2 a3 a4
  lead := h.lead
  nz := h.nz
  sym i j a1 a2 a3 a4 := by rw [e i j a1 a2 a3 a4, e j i a3 a4 a1 a2]; exact h.sym i j a1 a2 a3 a4
  form x := by
    rw [h.form x]
    congr 1
    exact rf_congr fun i j a1 a2 a3 a4 => by rw [e i j a1 a2 a3 a4]
  back := h.back
  piv := h.piv
  sgn := h.sgn
  det := h.det
end Go.Proofs.Ytlcogbcpmneknaa
/- The state behind the search for a pivot, and behind its step; what the walk of ref.SquaresOf wants. -/
namespace Go.Proofs.Ytlcogbcpmneknaa
open Go.RowKit Go.Maps

/-- A pivot's place is found. -/
def BsT (B n m0 : Nat) (wt : Nat → Int) (U0 : Nat → Nat → Int) (g4 c4 : Nat) (gs4 cs4 : Nat → Nat) (k : Nat) (b sg : Int) (p : Nat) (W : World) : Prop :=
  ∃ (t' : Nat) (M' U' : Nat → Nat → Int), k ≤ p ∧ p < n ∧ M' p p ≠ 0 ∧ TabV B n n gs4 cs4 M' (.slice (some ⟨g4, 0, none⟩) n c4) W ∧ (∃ π Y X, Elm n m0 wt U0 k t' M' b sg U' π Y X) ∧ (2 * t' ≤ k + 1 ∨ (2 * t' ≤ k + 2 ∧ ∃ q, q ≠ p ∧ k ≤ q ∧ q < n ∧ M' q q = 0 ∧ M' p q ≠ 0 ∧ M' q p ≠ 0))
def T6 (M : Nat → Nat → Int) (k i j x : Nat) (a c : Nat) : Int := if a = i ∧ k ≤ c ∧ c < x then M i c + M j c else M a c
def T7 (M : Nat → Nat → Int) (k i j n x : Nat) (a c : Nat) : Int := if c = i ∧ k ≤ a ∧ a < x then T6 M k i j n a i + T6 M k i j n a j else T6 M k i j n a c
theorem T7_ad {M : Nat → Nat → Int} {k i j n : Nat} (hi : k ≤ i ∧ i < n) (hj : k ≤ j ∧ j < n) (a c : Nat) (a1 : k ≤ a) (a2 : a < n) (a3 : k ≤ c) (a4 : c < n) : T7 M k i j n n a c = adM i j M a c := by
  unfold T7 T6 adM
  by_cases h1 : a = i <;> by_cases h2 : c = i
  · rw [if_pos ⟨h2, a1, a2⟩, if_pos ⟨h1, hi⟩, if_pos ⟨h1, hj⟩, if_pos h2, if_pos h1, if_pos h2, h1]; omega
  · rw [if_neg (fun q => h2 q.1), if_pos ⟨h1, a3, a4⟩, if_neg h2, if_pos h1, if_neg h2, h1]
  · rw [if_pos ⟨h2, a1, a2⟩, if_neg (fun q => h1 q.1), if_neg (fun q => h1 q.1), if_pos h2, if_neg h1]; omega
  · rw [if_neg (fun q => h2 q.1), if_neg (fun q => h1 q.1), if_neg h2, if_neg h1]; omega
theorem bst_add {B n m0 : Nat} {wt : Nat → Int} {U0 : Nat → Nat → Int} {g4 c4 : Nat} {gs4 cs4 : Nat → Nat} {k t : Nat} {b sg : Int} {M U : Nat → Nat → Int} {i j : Nat} {W : World} (hk : k < n) (hP : TabV B n n gs4 cs4 (T7 M k i j n n) (.slice (some ⟨g4, 0, none⟩) n c4) W) (hE : ∃ π Y X, Elm n m0 wt U0 k t M b sg U π Y X)
    (hF : 2 * t ≤ k + 1 ∧ (2 * t = k + 1 → k = n ∨ ∃ x, k ≤ x ∧ x < n ∧ M x x ≠ 0)) (hD : ∀ q, k ≤ q → q < n → M q q = 0) (hij : i ≠ j) (hi : k ≤ i ∧ i < n) (hj : k ≤ j ∧ j < n) (hx : M i j ≠ 0) : BsT B n m0 wt U0 g4 c4 gs4 cs4 k b sg i W := by
  obtain ⟨π, Y, X, hE⟩ := hE
  have e : ∀ a c, k ≤ a → a < n → k ≤ c → c < n → T7 M k i j n n a c = adM i j M a c := fun a c a1 a2 a3 a4 => T7_ad hi hj a c a1 a2 a3 a4
  have hs := hE.sym i j hi.1 hi.2 hj.1 hj.2
  have di := hD i hi.1 hi.2
  have dj := hD j hj.1 hj.2
  have v1 : T7 M k i j n n i i = 2 * M i j := by rw [e i i hi.1 hi.2 hi.1 hi.2]; unfold adM; rw [if_pos rfl, if_pos rfl, if_pos rfl, di, dj, ← hs]; omega
  have v2 : T7 M k i j n n j j = 0 := by rw [e j j hj.1 hj.2 hj.1 hj.2]; unfold adM; rw [if_neg (Ne.symm hij), if_neg (Ne.symm hij), dj]; rfl
  have v3 : T7 M k i j n n i j = M i j := by rw [e i j hi.1 hi.2 hj.1 hj.2]; unfold adM; rw [if_neg (Ne.symm hij), if_pos rfl, if_neg (Ne.symm hij), dj]; omega
  have v4 : T7 M k i j n n j i = M i j := by rw [e j i hj.1 hj.2 hi.1 hi.2]; unfold adM; rw [if_pos rfl, if_neg (Ne.symm hij), dj, ← hs]; omega
  refine ⟨t + 1, _, adC i j U, hi.1, hi.2, by rw [v1]; omega, hP, ⟨_, _, _, (hE.ad hi hj hij).congr e⟩, Or.inr ⟨?_, j, Ne.symm hij, hj.1, hj.2, v2, by rw [v3]; exact hx, by rw [v4]; exact hx⟩⟩
  rcases Nat.lt_or_ge (2 * t) (k + 1) with q | q
  · omega
  · rcases hF.2 (by omega) with r | ⟨x, r1, r2, r3⟩
    · omega
    · exact absurd (hD x r1 r2) r3
/-- The step. -/
theorem bst_step {n m0 : Nat} {wt : Nat → Int} {U0 : Nat → Nat → Int} {k t : Nat} {b sg : Int} {M U : Nat → Nat → Int} {p : Nat} (hk : k < n) (hn : n ≤ 17) (hm : m0 ≤ 16) (hw : ∀ c, wt c = 1 ∨ wt c = -1) (hE : ∃ π Y X, Elm n m0 wt U0 k t M b sg U π Y X) (hp : k ≤ p ∧ p < n) (hpp : M p p ≠ 0)
    (hF : 2 * t ≤ k + 1 ∨ (2 * t ≤ k + 2 ∧ ∃ q, q ≠ p ∧ k ≤ q ∧ q < n ∧ M q q = 0 ∧ M p q ≠ 0 ∧ M q p ≠ 0)) :
    M (tw k p k) (tw k p k) ≠ 0 ∧ (∃ (U' : Nat → Nat → Int) (π : Nat → Rat) (Y X : Nat → Nat → Rat), Elm n m0 wt U0 (k + 1) t (elM k b fun i j => M (tw k p i) (tw k p j)) (M (tw k p k) (tw k p k)) (if decide (0 < M (tw k p k) (tw k p k)) = decide (0 < b) then sg + 1 else sg - 1) U' π Y X) ∧
    (2 * t ≤ k + 1 + 1 ∧ (2 * t = k + 1 + 1 → k + 1 = n ∨ ∃ x, k + 1 ≤ x ∧ x < n ∧ elM k b (fun i j => M (tw k p i) (tw k p j)) x x ≠ 0)) ∧ b ≠ 0 ∧ (-17 ≤ sg ∧ sg ≤ 17) ∧
    ∀ i j, k + 1 ≤ i → i < n → k + 1 ≤ j → j < n → ((M (tw k p i) (tw k p j)).natAbs ≤ 2147483648 ∧ (M (tw k p k) (tw k p k)).natAbs ≤ 2147483648 ∧ (M (tw k p i) (tw k p k)).natAbs ≤ 2147483648 ∧ (M (tw k p k) (tw k p j)).natAbs ≤ 2147483648) ∧
      (M (tw k p i) (tw k p j) * M (tw k p k) (tw k p k) - M (tw k p i) (tw k p k) * M (tw k p k) (tw k p j)).natAbs ≤ 4611686018427387904 ∧ (elM k b (fun i j => M (tw k p i) (tw k p j)) i j).natAbs ≤ 2147483648 := by
  obtain ⟨π, Y, X, hE⟩ := hE
  have hE2 := hE.sw ⟨Nat.le_refl k, hk⟩ hp
  have hkk : M (tw k p k) (tw k p k) ≠ 0 := by rw [tw_p]; exact hpp
  have hE3 := hE2.el hk hkk
  have st := hE2.step hk hkk
  refine ⟨hkk, ⟨_, _, _, _, hE3⟩, ⟨by rcases hF with r | ⟨r, -⟩ <;> omega, fun e => ?_⟩, hE.nz, ?_, fun i j a1 a2 a3 a4 => ?_⟩
  · by_cases q : k + 1 = n
    · exact Or.inl q
    · rcases hF with r | ⟨-, q, q1, q2, q3, q4, q5, q6⟩
      · omega
      · have r1 : k + 1 ≤ tw k p q := by
          by_cases y : q = k
          · rw [y, tw_p]; omega
          · rw [tw_else y q1]; omega
        have r2 := (tw_range ⟨Nat.le_refl k, hk⟩ hp ⟨q2, q3⟩).2
        have r3 : tw k p (tw k p q) = q := by
          by_cases y : q = k
          · rw [y, tw_p, tw_q]
          · rw [tw_else y q1, tw_else y q1]
        refine Or.inr ⟨tw k p q, r1, r2, ?_⟩
        · obtain ⟨f1, f2⟩ := st _ _ r1 r2 r1 r2
          intro z
          rw [z] at f2
          rw [← f2, r3, q4, tw_p] at f1
          have : M q p * M p q = 0 := by omega
          rcases Int.mul_eq_zero.1 this with y | y
          · exact q6 y
          · exact q5 y
  · have := hE.sgn
    have c1 := List.countP_le_length (p := fun a => decide (0 < π a)) (l := List.range k)
    have c2 := List.countP_le_length (p := fun a => decide (π a < 0)) (l := List.range k)
    rw [List.length_range] at c1 c2
    omega
  · have h2 : 2 * t ≤ k + 2 := by rcases hF with r | ⟨r, -⟩ <;> omega
    clear hF
    have ht : t ≤ 8 := by omega
    obtain ⟨s1, s2, -⟩ := hE2.small hw hm ht
    obtain ⟨-, -, s3⟩ := hE3.small hw hm ht
    obtain ⟨f1, f2⟩ := st i j a1 a2 a3 a4
    have g := s3 i j a1 a3
    refine ⟨⟨s1 i j (by omega) a2 (by omega) a4, s1 k k (Nat.le_refl k) hk (Nat.le_refl k) hk, s1 i k (by omega) a2 (Nat.le_refl k) hk, s1 k j (Nat.le_refl k) hk (by omega) a4⟩, ?_, ?_⟩
    · rw [f1, Int.natAbs_mul]
      exact Nat.mul_le_mul s2 g
    · rw [f2]; exact g
/-- The table while it is cleared. -/
def T9 (M : Nat → Nat → Int) (k : Nat) (b : Int) (i j : Nat) (a c : Nat) : Int := if k + 1 ≤ a ∧ k + 1 ≤ c ∧ (a < i ∨ (a = i ∧ c < j)) then elM k b M a c else M a c
end Go.Proofs.Ytlcogbcpmneknaa
