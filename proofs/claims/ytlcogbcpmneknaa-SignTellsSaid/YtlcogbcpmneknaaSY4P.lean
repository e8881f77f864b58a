/- Several texts of the proof, one behind the other. -/
import Derived.Test.YtlcogbcpmneknaaSY3
/- Traces of powers, Newton's rule, and where the coefficients of the roots settle; plain mathematics. -/
namespace Go.Proofs.Ytlcogbcpmneknaa

theorem nul_sm {n : Nat} {u : Nat → Nat → Rat} (h : ∀ i, i < n → Nul (u i)) : Nul fun j => sm n fun i => u i j := by
  induction n with
  | zero => exact nul_zero
  | succ n ih => exact nul_add (ih fun i hi => h i (by omega)) (h n (by omega))
theorem bdd_add {u v : Nat → Rat} (hu : Bdd u) (hv : Bdd v) : Bdd fun j => u j + v j := by
  obtain ⟨A, hA, a⟩ := hu
  obtain ⟨B, hB, b⟩ := hv
  exact ⟨A + B, by grind, fun j => by have := a j; have := b j; grind⟩
theorem bdd_mul {u v : Nat → Rat} (hu : Bdd u) (hv : Bdd v) : Bdd fun j => u j * v j := by
  obtain ⟨A, hA, a⟩ := hu
  obtain ⟨B, hB, b⟩ := hv
  exact ⟨A * B, Rat.mul_pos hA hB, fun j => mul_bd (a j).1 (a j).2 (b j).1 (b j).2⟩
theorem bdd_const (c : Rat) : Bdd fun _ => c := cau_bdd (cau_const c)
theorem bdd_sm {n : Nat} {u : Nat → Nat → Rat} (h : ∀ i, i < n → Bdd (u i)) : Bdd fun j => sm n fun i => u i j := by
  induction n with
  | zero => exact bdd_const 0
  | succ n ih => exact bdd_add (ih fun i hi => h i (by omega)) (h n (by omega))
section
variable {n : Nat} {A : Nat → Nat → Nat → Rat} (hd : ∀ i, i < n → Cau fun j => A j i i) (ho : ∀ i k, i < n → k < n → i ≠ k → Nul fun j => A j i k)
include hd ho
theorem ent_bdd {i k : Nat} (hi : i < n) (hk : k < n) : Bdd fun j => A j i k := by
  by_cases h : i = k
  · subst h; exact cau_bdd (hd i hi)
  · exact cau_bdd (nul_cau (ho i k hi hk h))
theorem pw_bdd : ∀ m i k, i < n → k < n → Bdd fun j => pw n (A j) m i k
  | 0, _, _, _, _ => bdd_const _
  | m + 1, i, k, hi, hk => bdd_sm (u := fun a j => A j i a * pw n (A j) m a k) fun a ha => bdd_mul (ent_bdd hd ho hi ha) (pw_bdd m a k ha hk)
theorem pw_near : ∀ m i k, i < n → k < n → Nul fun j => pw n (A j) m i k - if i = k then pwr (A j i i) m else 0
  | 0, i, k, _, _ => nul_congr nul_zero fun j => by
    show (0 : Rat) = (if i = k then (1 : Rat) else 0) - if i = k then (1 : Rat) else 0
    grind
  | m + 1, i, k, hi, hk => by
    have n1 : Nul fun j => sm n fun a => (if a = i then 0 else A j i a) * pw n (A j) m a k := nul_sm (u := fun a j => (if a = i then 0 else A j i a) * pw n (A j) m a k) fun a ha => by
      refine nul_mul ?_ (pw_bdd hd ho m a k ha hk)
      by_cases h : a = i
      · exact nul_congr nul_zero fun j => by rw [if_pos h]
      · exact nul_congr (ho i a hi ha (Ne.symm h)) fun j => by rw [if_neg h]
    have n2 := nul_mul (pw_near m i k hi hk) (cau_bdd (hd i hi))
    refine nul_congr (nul_add n1 n2) fun j => ?_
    have e1 : pw n (A j) (m + 1) i k = (sm n fun a => (if a = i then 0 else A j i a) * pw n (A j) m a k) + A j i i * pw n (A j) m i k := by
      show (sm n fun a => A j i a * pw n (A j) m a k) = _
      have e2 : A j i i * pw n (A j) m i k = sm n fun a => if a = i then A j i a * pw n (A j) m a k else 0 := by rw [sm_one hi fun a _ ha => if_neg ha, if_pos rfl]
      rw [e2, ← sm_add]
      refine sm_congr fun a _ => ?_
      by_cases h : a = i
      · rw [if_pos h, if_pos h]; grind
      · rw [if_neg h, if_neg h]; grind
    rw [e1]
    by_cases h : i = k
    · subst h
      rw [if_pos rfl, if_pos rfl]
      show _ = _ - A j i i * pwr (A j i i) m
      grind
    · rw [if_neg h, if_neg h]; grind
theorem tr_near (m : Nat) : Nul fun j => tr n (pw n (A j) m) - sm n fun i => pwr (A j i i) m := by
  refine nul_congr (nul_sm (n := n) (u := fun i j => pw n (A j) m i i - pwr (A j i i) m) fun i hi => nul_congr (pw_near hd ho m i i hi hi) fun j => by rw [if_pos rfl]) fun j => ?_
  unfold tr
  have : (fun i => pw n (A j) m i i - pwr (A j i i) m) = fun i => pw n (A j) m i i + -1 * pwr (A j i i) m := funext fun i => by grind
  show (sm n fun i => pw n (A j) m i i - pwr (A j i i) m) = _
  rw [this, sm_add, sm_mul]; grind
end
/-- The diagonal, as a list. -/
def dgL (A : Nat → Nat → Nat → Rat) : Nat → List (Nat → Rat)
  | 0 => []
  | n + 1 => (fun j => A j n n) :: dgL A n
theorem dgL_len (A : Nat → Nat → Nat → Rat) : ∀ n, (dgL A n).length = n
  | 0 => rfl
  | n + 1 => by show (dgL A n).length + 1 = n + 1; rw [dgL_len]
theorem dgL_mem {A : Nat → Nat → Nat → Rat} : ∀ {n : Nat} {u : Nat → Rat}, u ∈ dgL A n → ∃ i, i < n ∧ u = fun j => A j i i
  | 0, u, h => by cases h
  | n + 1, u, h => by
    rcases List.mem_cons.1 h with rfl | h
    · exact ⟨n, by omega, rfl⟩
    · obtain ⟨i, hi, e⟩ := dgL_mem h
      exact ⟨i, by omega, e⟩
def psL : List (Nat → Rat) → Nat → Nat → Rat
  | [], _, _ => 0
  | d :: L, m, j => psL L m j + pwr (d j) m
theorem psL_dg (A : Nat → Nat → Nat → Rat) (m j : Nat) : ∀ n, psL (dgL A n) m j = sm n fun i => pwr (A j i i) m
  | 0 => rfl
  | n + 1 => by show psL (dgL A n) m j + _ = sm n _ + _; rw [psL_dg]
/-- Newton's rule. -/
def Nwt (b p : Nat → Rat) : Prop := ∀ k, (sm k fun i => b i * p (k - i)) + k * b k = 0
theorem sm_front (n : Nat) (f : Nat → Rat) : sm (n + 1) f = f 0 + sm n fun i => f (i + 1) := by
  induction n with
  | zero => show (0 : Rat) + f 0 = f 0 + 0; grind
  | succ n ih => show sm (n + 1) f + f (n + 1) = f 0 + (sm n (fun i => f (i + 1)) + f (n + 1)); rw [ih]; grind
theorem nwt_more {b p b' p' : Nat → Rat} {d : Rat} (h : Nwt b p) (h0 : b' 0 = b 0) (h1 : ∀ k, b' (k + 1) = b (k + 1) - d * b k) (hp : ∀ m, p' m = p m + pwr d m) : Nwt b' p' := fun k => by
  cases k with
  | zero => show (0 : Rat) + ((0 : Nat) : Rat) * b' 0 = 0; grind
  | succ k =>
    have eB : ∀ m, m ≤ k → (sm (m + 1) fun i => b' i * pwr d (k + 1 - i)) = b m * pwr d (k + 1 - m) := fun m => by
      induction m with
      | zero => intro _; show (0 : Rat) + b' 0 * pwr d (k + 1 - 0) = _; rw [h0]; grind
      | succ m ih =>
        intro hm
        show (sm (m + 1) fun i => b' i * pwr d (k + 1 - i)) + b' (m + 1) * pwr d (k + 1 - (m + 1)) = _
        rw [ih (by omega), h1, show k + 1 - m = (k + 1 - (m + 1)) + 1 by omega]
        show b m * (d * pwr d (k + 1 - (m + 1))) + _ = _
        grind
    have eA : (sm (k + 1) fun i => b' i * p (k + 1 - i)) = (sm (k + 1) fun i => b i * p (k + 1 - i)) - d * sm k fun i => b i * p (k - i) := by
      rw [sm_front, sm_front k fun i => b i * p (k + 1 - i), h0, ← sm_mul]
      have e1 : (sm k fun i => b' (i + 1) * p (k + 1 - (i + 1))) = (sm k fun i => b (i + 1) * p (k + 1 - (i + 1))) + -1 * sm k fun i => d * (b i * p (k - i)) := by
        rw [← sm_mul, ← sm_add]
        refine sm_congr fun i _ => ?_
        rw [h1, show k + 1 - (i + 1) = k - i by omega]; grind
      rw [e1]; grind
    have e2 : (sm (k + 1) fun i => b' i * p' (k + 1 - i)) = (sm (k + 1) fun i => b' i * p (k + 1 - i)) + sm (k + 1) fun i => b' i * pwr d (k + 1 - i) := by
      rw [← sm_add]
      refine sm_congr fun i _ => ?_
      rw [hp]; grind
    rw [e2, eA, eB k (Nat.le_refl _), h1, show k + 1 - k = 0 + 1 by omega]
    have q1 := h (k + 1)
    have q2 := h k
    show _ + b k * (d * 1) + _ = 0
    rw [Rat.natCast_add] at q1 ⊢
    grind
theorem nwt_roots : ∀ (L : List (Nat → Rat)) (j : Nat), Nwt (fun k => bL L k j) (fun m => psL L m j)
  | [], j => fun k => by
    have e : (sm k fun i => bL [] i j * psL [] (k - i) j) = 0 := by
      rw [sm_congr (g := fun _ => 0) fun i _ => by show _ * (0 : Rat) = 0; grind, sm_zero]
    show (sm k fun i => bL [] i j * psL [] (k - i) j) + (k : Rat) * bL [] k j = 0
    rw [e]
    cases k with
    | zero => grind
    | succ k => rw [bL_over [] (k + 1) j (by simp)]; grind
  | d :: L, j => nwt_more (d := d j) (nwt_roots L j) (bL_zero (d :: L) j |>.trans (bL_zero L j).symm) (fun k => rfl) (fun m => rfl)
/-- What is made by Newton's rule out of the sums that powers settle on is what the coefficients settle on. -/
theorem nwt_near {L : List (Nat → Rat)} {f P : Nat → Rat} (hf : Nwt f P) (h0 : f 0 = 1) (hP : ∀ m, Nul fun j => psL L m j - P m) (hB : ∀ m, Bdd fun j => psL L m j) (k : Nat) : Nul fun j => bL L k j - f k := by
  induction k using Nat.strongRecOn with
  | ind k ih =>
    cases k with
    | zero => exact nul_congr nul_zero fun j => by rw [bL_zero, h0]; grind
    | succ k =>
      have n1 : Nul fun j => sm (k + 1) fun i => bL L i j * psL L (k + 1 - i) j - f i * P (k + 1 - i) := nul_sm (u := fun i j => bL L i j * psL L (k + 1 - i) j - f i * P (k + 1 - i)) fun i hi =>
        nul_congr (nul_add (nul_mul (ih i hi) (hB (k + 1 - i))) (nul_mul (hP (k + 1 - i)) (bdd_const (f i)))) fun j => by grind
      have hk : ((k + 1 : Nat) : Rat) ≠ 0 := by
        have : ((0 : Nat) : Rat) < ((k + 1 : Nat) : Rat) := Rat.natCast_lt_natCast.2 (by omega)
        have e0 : ((0 : Nat) : Rat) = 0 := rfl
        grind
      refine nul_congr (nul_mul n1 (bdd_const (-1 / ((k + 1 : Nat) : Rat)))) fun j => ?_
      have q1 := nwt_roots L j (k + 1)
      have q2 := hf (k + 1)
      have e : (sm (k + 1) fun i => bL L i j * psL L (k + 1 - i) j - f i * P (k + 1 - i)) = (sm (k + 1) fun i => bL L i j * psL L (k + 1 - i) j) + -1 * sm (k + 1) fun i => f i * P (k + 1 - i) := by
        rw [← sm_mul, ← sm_add]
        exact sm_congr fun i _ => by grind
      rw [e]
      grind
end Go.Proofs.Ytlcogbcpmneknaa
/- How many signs there are does not hang on the frame; plain mathematics. -/
namespace Go.Proofs.Ytlcogbcpmneknaa

/-- Fewer equations than unknowns. -/
theorem few_eqs : ∀ (n : Nat) (E : List (Nat → Rat)), E.length < n → ∃ z : Nat → Rat, (∃ i, i < n ∧ z i ≠ 0) ∧ ∀ e ∈ E, (sm n fun i => e i * z i) = 0
  | 0, E, h => by omega
  | n + 1, E, h => by
    rcases Classical.em (∃ e ∈ E, e n ≠ 0) with ⟨e0, h0, hne⟩ | q
    · obtain ⟨S, T, rfl⟩ := List.append_of_mem h0
      obtain ⟨z, ⟨i, hi, hz⟩, hE⟩ := few_eqs n ((S ++ T).map fun e i => e i - e n / e0 n * e0 i) (by simp at h ⊢; omega)
      let z' : Nat → Rat := fun k => if k < n then z k else -(sm n fun i => e0 i * z i) / e0 n
      have zl : ∀ k, k < n → z' k = z k := fun k hk => if_pos hk
      have zn : z' n = -(sm n fun i => e0 i * z i) / e0 n := if_neg (Nat.lt_irrefl n)
      have s0 : ∀ e : Nat → Rat, (sm (n + 1) fun i => e i * z' i) = (sm n fun i => e i * z i) + e n * (-(sm n fun i => e0 i * z i) / e0 n) := fun e => by
        show (sm n fun i => e i * z' i) + e n * z' n = _
        rw [zn, sm_congr fun i hi => by rw [zl i hi]]
      refine ⟨z', ⟨i, by omega, by rw [zl i hi]; exact hz⟩, fun e he => ?_⟩
      rw [s0]
      by_cases hee : e = e0
      · rw [hee]; grind
      · have hm : e ∈ S ++ T := by
          rcases List.mem_append.1 he with r | r
          · exact List.mem_append_left _ r
          · rcases List.mem_cons.1 r with r | r
            · exact absurd r hee
            · exact List.mem_append_right _ r
        have h1 := hE _ (List.mem_map_of_mem (f := fun e i => e i - e n / e0 n * e0 i) hm)
        have h2 : (sm n fun i => (e i - e n / e0 n * e0 i) * z i) = (sm n fun i => e i * z i) + -(e n / e0 n) * sm n fun i => e0 i * z i := by
          rw [← sm_mul, ← sm_add]; exact sm_congr fun i _ => by grind
        rw [h2] at h1
        grind
    · refine ⟨fun k => if k = n then 1 else 0, ⟨n, by omega, by show (if n = n then (1 : Rat) else 0) ≠ 0; rw [if_pos rfl]; decide⟩, fun e he => ?_⟩
      have hn : e n = 0 := Classical.byContradiction fun hc => q ⟨e, he, hc⟩
      show (sm n fun i => e i * if i = n then 1 else 0) + e n * (if n = n then 1 else 0) = 0
      rw [hn, sm_congr (g := fun _ => 0) fun i hi => by rw [if_neg (by omega)]; grind, sm_zero]; grind
/-- The form of a table. -/
def qf (n : Nat) (M : Nat → Nat → Rat) (x y : Nat → Rat) : Rat := sm n fun k => sm n fun l => x k * (M k l * y l)
def nq (n : Nat) (x : Nat → Rat) : Rat := sm n fun i => x i * x i
def vw (n : Nat) (Q : Nat → Nat → Rat) (z : Nat → Rat) (k : Nat) : Rat := sm n fun i => Q i k * z i
def ap (n : Nat) (Y : Nat → Nat → Rat) (x : Nat → Rat) (a : Nat) : Rat := sm n fun i => Y a i * x i
theorem sm_dist (n : Nat) (f : Nat → Rat) (k : Rat) : sm n f * k = sm n fun i => f i * k := by
  have := sm_mul n k f
  rw [show sm n f * k = k * sm n f by grind, ← this]
  exact sm_congr fun i _ => by grind
theorem qf_vw {n : Nat} {M A Q : Nat → Nat → Rat} (h : ∀ i j, i < n → j < n → A i j = sm n fun a => sm n fun b => Q i a * (M a b * Q j b)) (z : Nat → Rat) : qf n M (vw n Q z) (vw n Q z) = qf n A z z := by
  have e1 : qf n A z z = sm n fun i => sm n fun j => sm n fun a => sm n fun b => (Q i a * z i) * (M a b * (Q j b * z j)) := sm_congr fun i hi => sm_congr fun j hj => by
    rw [h i j hi hj]
    have : z i * ((sm n fun a => sm n fun b => Q i a * (M a b * Q j b)) * z j) = (z i * z j) * sm n fun a => sm n fun b => Q i a * (M a b * Q j b) := by grind
    rw [this, ← sm_mul]
    refine sm_congr fun a _ => ?_
    rw [← sm_mul]
    exact sm_congr fun b _ => by grind
  have e2 : qf n M (vw n Q z) (vw n Q z) = sm n fun a => sm n fun b => sm n fun i => sm n fun j => (Q i a * z i) * (M a b * (Q j b * z j)) := sm_congr fun a _ => sm_congr fun b _ => by
    show (sm n fun i => Q i a * z i) * (M a b * sm n fun j => Q j b * z j) = _
    rw [sm_dist]
    refine sm_congr fun i _ => ?_
    rw [← sm_mul, ← sm_mul]
  have e3 : (fun i => sm n fun j => sm n fun a => sm n fun b => (Q i a * z i) * (M a b * (Q j b * z j))) = fun i => sm n fun a => sm n fun b => sm n fun j => (Q i a * z i) * (M a b * (Q j b * z j)) := funext fun i => by
    rw [sm_swap n n fun j a => sm n fun b => (Q i a * z i) * (M a b * (Q j b * z j))]
    exact sm_congr fun a _ => sm_swap n n fun j b => (Q i a * z i) * (M a b * (Q j b * z j))
  rw [e1, e2, e3, sm_swap n n fun i a => sm n fun b => sm n fun j => (Q i a * z i) * (M a b * (Q j b * z j))]
  exact sm_congr fun a _ => (sm_swap n n fun i b => sm n fun j => (Q i a * z i) * (M a b * (Q j b * z j))).symm
theorem nq_vw {n : Nat} {Q : Nat → Nat → Rat} (h : ∀ i j, i < n → j < n → (sm n fun a => Q i a * Q j a) = if i = j then 1 else 0) (z : Nat → Rat) : nq n (vw n Q z) = nq n z := by
  have e1 : nq n (vw n Q z) = sm n fun a => sm n fun i => sm n fun j => (Q i a * z i) * (Q j a * z j) := sm_congr fun a _ => by
    show (sm n fun i => Q i a * z i) * (sm n fun j => Q j a * z j) = _
    rw [sm_dist]
    exact sm_congr fun i _ => by rw [← sm_mul]
  rw [e1, sm_swap n n fun a i => sm n fun j => (Q i a * z i) * (Q j a * z j)]
  refine sm_congr fun i hi => ?_
  rw [sm_swap n n fun a j => (Q i a * z i) * (Q j a * z j)]
  have e2 : ∀ j, j < n → (sm n fun a => (Q i a * z i) * (Q j a * z j)) = if i = j then z i * z j else 0 := fun j hj => by
    have : (sm n fun a => (Q i a * z i) * (Q j a * z j)) = (z i * z j) * sm n fun a => Q i a * Q j a := by rw [← sm_mul]; exact sm_congr fun a _ => by grind
    rw [this, h i j hi hj]
    split <;> grind
  rw [sm_congr e2, sm_one hi fun j _ hj => if_neg (Ne.symm hj), if_pos rfl]
theorem nq_pos {n : Nat} {x : Nat → Rat} {i : Nat} (hi : i < n) (h : x i ≠ 0) : 0 < nq n x := by
  have h1 := sm_term (n := n) (f := fun i => x i * x i) (fun i _ => sq_nonneg _) hi
  have h2 : 0 < x i * x i := by
    rcases Classical.em (0 < x i) with r | r
    · exact Rat.mul_pos r r
    · have := Rat.mul_pos (show 0 < -x i by grind) (show 0 < -x i by grind); grind
  have h3 : x i * x i ≤ nq n x := h1
  grind
/-- Form by squares, seen both ways. -/
structure Cong (n : Nat) (M : Nat → Nat → Rat) (π : Nat → Rat) (Y X : Nat → Nat → Rat) : Prop where
  form : ∀ x, qf n M x x = sm n fun a => π a * (ap n Y x a * ap n Y x a)
  back : ∀ x i, i < n → x i = sm n fun a => X i a * ap n Y x a
/-- Places beside the diagonal that are small add little. -/
theorem qf_near {n : Nat} {A : Nat → Nat → Rat} {e : Rat} (h : ∀ i j, i < n → j < n → i ≠ j → -e ≤ A i j ∧ A i j ≤ e) (he : 0 ≤ e) (z : Nat → Rat) : -(e * n * nq n z) ≤ qf n A z z - (sm n fun i => A i i * (z i * z i)) ∧ qf n A z z - (sm n fun i => A i i * (z i * z i)) ≤ e * n * nq n z := by
  have e1 : qf n A z z - (sm n fun i => A i i * (z i * z i)) = sm n fun i => sm n fun j => if j = i then 0 else A i j * (z i * z j) := by
    have : qf n A z z = (sm n fun i => A i i * (z i * z i)) + sm n fun i => sm n fun j => if j = i then 0 else A i j * (z i * z j) := by
      rw [← sm_add]
      refine sm_congr fun i hi => ?_
      have e2 : A i i * (z i * z i) = sm n fun j => if j = i then A i j * (z i * z j) else 0 := by rw [sm_one hi fun j _ hj => if_neg hj, if_pos rfl]
      rw [e2, ← sm_add]
      refine sm_congr fun j _ => ?_
      split <;> grind
    rw [this]; grind
  have e3 : (sm n fun i => sm n fun j => e / 2 * (z i * z i) + e / 2 * (z j * z j)) = e * n * nq n z := by
    have f1 : ∀ i, (sm n fun j => e / 2 * (z i * z i) + e / 2 * (z j * z j)) = n * (e / 2 * (z i * z i)) + e / 2 * nq n z := fun i => by
      rw [sm_add, sm_const, sm_mul]; rfl
    rw [sm_congr fun i _ => f1 i, sm_add, sm_const]
    have f2 : (sm n fun i => (n : Rat) * (e / 2 * (z i * z i))) = n * (e / 2) * nq n z := by
      rw [sm_congr (g := fun i => n * (e / 2) * (z i * z i)) fun i _ => by grind, sm_mul]; rfl
    rw [f2]; grind
  have b : ∀ i j, i < n → j < n → -(e / 2 * (z i * z i) + e / 2 * (z j * z j)) ≤ (if j = i then 0 else A i j * (z i * z j)) ∧ (if j = i then 0 else A i j * (z i * z j)) ≤ e / 2 * (z i * z i) + e / 2 * (z j * z j) := fun i j hi hj => by
    have n1 := Rat.mul_nonneg he (sq_nonneg (z i))
    have n2 := Rat.mul_nonneg he (sq_nonneg (z j))
    by_cases q : j = i
    · rw [if_pos q]; grind
    · rw [if_neg q]
      obtain ⟨a1, a2⟩ := h i j hi hj (Ne.symm q)
      have m1 := Rat.mul_nonneg he (sq_nonneg (z i + z j))
      have m2 := Rat.mul_nonneg he (sq_nonneg (z i - z j))
      rcases Classical.em (0 ≤ z i * z j) with r | r
      · have := Rat.mul_nonneg (show 0 ≤ e - A i j by grind) r
        have := Rat.mul_nonneg (show 0 ≤ e + A i j by grind) r
        grind
      · have := Rat.mul_nonneg (show 0 ≤ e - A i j by grind) (show 0 ≤ -(z i * z j) by grind)
        have := Rat.mul_nonneg (show 0 ≤ e + A i j by grind) (show 0 ≤ -(z i * z j) by grind)
        grind
  rw [e1, ← e3]
  constructor
  · have : -(sm n fun i => sm n fun j => e / 2 * (z i * z i) + e / 2 * (z j * z j)) = sm n fun i => sm n fun j => -(e / 2 * (z i * z i) + e / 2 * (z j * z j)) := by
      rw [show -(sm n fun i => sm n fun j => e / 2 * (z i * z i) + e / 2 * (z j * z j)) = -1 * (sm n fun i => sm n fun j => e / 2 * (z i * z i) + e / 2 * (z j * z j)) by grind, ← sm_mul]
      refine sm_congr fun i _ => ?_
      rw [← sm_mul]
      exact sm_congr fun j _ => by grind
    rw [this]
    exact sm_le fun i hi => sm_le fun j hj => (b i j hi hj).1
  · exact sm_le fun i hi => sm_le fun j hj => (b i j hi hj).2
theorem ev_all {n : Nat} {P : Nat → Nat → Prop} (h : ∀ i, i < n → ∃ J, ∀ j, J ≤ j → P i j) : ∃ J, ∀ i, i < n → ∀ j, J ≤ j → P i j := by
  induction n with
  | zero => exact ⟨0, fun i hi => by omega⟩
  | succ n ih =>
    obtain ⟨J, hJ⟩ := ih fun i hi => h i (by omega)
    obtain ⟨K, hK⟩ := h n (by omega)
    refine ⟨max J K, fun i hi j hj => ?_⟩
    rcases Nat.lt_or_ge i n with q | q
    · exact hJ i q j (by omega)
    · rw [show i = n by omega]; exact hK j (by omega)
end Go.Proofs.Ytlcogbcpmneknaa
