/- Elimination: a pivot is taken; the beginning and the ends; plain mathematics. -/
import Derived.Test.YtlcogbcpmneknaaSYd
namespace Go.Proofs.Ytlcogbcpmneknaa

theorem Elm.small {n m0 k t : Nat} {w : Nat → Int} {U0 M U : Nat → Nat → Int} {b sg : Int} {π : Nat → Rat} {Y X : Nat → Nat → Rat} (h : Elm n m0 w U0 k t M b sg U π Y X) (hw : ∀ c, w c = 1 ∨ w c = -1) (hm : m0 ≤ 16) (ht : t ≤ 8) :
    (∀ i j, k ≤ i → i < n → k ≤ j → j < n → (M i j).natAbs ≤ 2147483648) ∧ b.natAbs ≤ 2147483648 ∧ ∀ i j, k ≤ i → k ≤ j → (mn (tU w U m0) k i j).natAbs ≤ 2147483648 := by
  have h2 : 2 ^ t ≤ 2 ^ 8 := Nat.pow_le_pow_right (by omega) ht
  have h3 : 32768 * (2 ^ t * 2 ^ t) ≤ 2147483648 := by
    have := Nat.mul_le_mul h2 h2
    omega
  have g : ∀ i j, k ≤ i → k ≤ j → (mn (tU w U m0) k i j).natAbs ≤ 2147483648 := fun i j a1 a3 => Nat.le_trans (gd_bd (I := i :: dn k) (J := j :: dn k) hw h.gd hm (List.nodup_cons.2 ⟨fun q => by have := dn_mem.1 q; omega, dn_nodup k⟩) (List.nodup_cons.2 ⟨fun q => by have := dn_mem.1 q; omega, dn_nodup k⟩)) h3
  refine ⟨fun i j a1 a2 a3 a4 => by rw [h.at_ i j a1 a2 a3 a4]; exact g i j a1 a3, ?_, g⟩
  rw [h.lead]
  exact Nat.le_trans (gd_bd (I := dn k) (J := dn k) hw h.gd hm (dn_nodup k) (dn_nodup k)) h3
/-- What stands behind a step. -/
def elM (k : Nat) (b : Int) (M : Nat → Nat → Int) (i j : Nat) : Int := (M i j * M k k - M i k * M k j).tdiv b
theorem Elm.step {n m0 k t : Nat} {w : Nat → Int} {U0 M U : Nat → Nat → Int} {b sg : Int} {π : Nat → Rat} {Y X : Nat → Nat → Rat} (h : Elm n m0 w U0 k t M b sg U π Y X) (hk : k < n) (hp : M k k ≠ 0) : ∀ i j, k + 1 ≤ i → i < n → k + 1 ≤ j → j < n → M i j * M k k - M i k * M k j = b * mn (tU w U m0) (k + 1) i j ∧ elM k b M i j = mn (tU w U m0) (k + 1) i j := fun i j a1 a2 a3 a4 => by
  have e0 := h.at_ k k (Nat.le_refl k) hk (Nat.le_refl k) hk
  have e := mn_syl (T := tU w U m0) (k := k) (i := i) (j := j) (by omega) (by rw [← e0]; exact hp)
  rw [← e0, ← h.lead, ← h.at_ i j (by omega) a2 (by omega) a4, ← h.at_ i k (by omega) a2 (Nat.le_refl k) hk, ← h.at_ k j (Nat.le_refl k) hk (by omega) a4] at e
  have e1 : M i j * M k k - M i k * M k j = b * mn (tU w U m0) (k + 1) i j := by rw [e, Int.mul_comm (M i j)]
  refine ⟨e1, ?_⟩
  unfold elM
  rw [e1, Int.mul_tdiv_cancel_left _ h.nz]
theorem ap_add (n : Nat) (Y : Nat → Nat → Rat) (x : Nat → Rat) (k : Nat) (c : Nat → Rat) (a : Nat) : ap n (fun a i => if a = k then Y k i + sf (k + 1) n (fun j => c j * Y j i) else Y a i) x a = if a = k then ap n Y x k + sf (k + 1) n (fun j => c j * ap n Y x j) else ap n Y x a := by
  unfold ap
  by_cases h : a = k
  · simp only [if_pos h]
    have e1 : (sm n fun i => (Y k i + sf (k + 1) n fun j => c j * Y j i) * x i) = (sm n fun i => Y k i * x i) + sm n fun i => sf (k + 1) n fun j => c j * (Y j i * x i) := by
      rw [← sm_add]
      refine sm_congr fun i _ => ?_
      have : (sf (k + 1) n fun j => c j * (Y j i * x i)) = (sf (k + 1) n fun j => c j * Y j i) * x i := by rw [sf_dist]; exact sf_congr fun j _ _ => by grind
      rw [this]; grind
    rw [e1]
    congr 1
    have e2 : (sf (k + 1) n fun j => c j * sm n fun i => Y j i * x i) = sf (k + 1) n fun j => sm n fun i => c j * (Y j i * x i) := sf_congr fun j _ _ => (sm_mul n _ _).symm
    rw [e2]
    unfold sf
    rw [sm_swap]
    refine sm_congr fun j _ => ?_
    by_cases q : k + 1 ≤ j
    · simp only [if_pos q]
    · simp only [if_neg q]; exact sm_zero n
  · simp only [if_neg h]
theorem count_next {k : Nat} (p : Nat → Bool) : (List.range (k + 1)).countP p = (List.range k).countP p + if p k = true then 1 else 0 := by
  rw [List.range_succ, List.countP_append, List.countP_singleton]
theorem int_div_pos {a b : Int} (hb : b ≠ 0) (ha : a ≠ 0) : (0 < ((a : Int) : Rat) / ((b : Int) : Rat) ↔ (decide (0 < a) = decide (0 < b))) ∧ (((a : Int) : Rat) / ((b : Int) : Rat) < 0 ↔ ¬ (decide (0 < a) = decide (0 < b))) ∧ ((a : Int) : Rat) / ((b : Int) : Rat) ≠ 0 := by
  have z : ((0 : Int) : Rat) = 0 := rfl
  obtain ⟨x, hx⟩ : ∃ x : Rat, ((a : Int) : Rat) / ((b : Int) : Rat) = x := ⟨_, rfl⟩
  have hb' : ((b : Int) : Rat) ≠ 0 := fun e => hb (Rat.intCast_inj.1 (e.trans z.symm))
  have ha' : ((a : Int) : Rat) ≠ 0 := fun e => ha (Rat.intCast_inj.1 (e.trans z.symm))
  have e : x * ((b : Int) : Rat) = ((a : Int) : Rat) := by rw [← hx]; grind
  have hx0 : x ≠ 0 := fun q => ha' (by rw [← e, q]; grind)
  rw [hx]
  have s1 : 0 < a → (0 : Rat) < ((a : Int) : Rat) := fun q => by rw [← z]; exact Rat.intCast_lt_intCast.2 q
  have s2 : a < 0 → ((a : Int) : Rat) < 0 := fun q => by rw [← z]; exact Rat.intCast_lt_intCast.2 q
  have t1 : 0 < b → (0 : Rat) < ((b : Int) : Rat) := fun q => by rw [← z]; exact Rat.intCast_lt_intCast.2 q
  have t2 : b < 0 → ((b : Int) : Rat) < 0 := fun q => by rw [← z]; exact Rat.intCast_lt_intCast.2 q
  rcases Int.lt_trichotomy a 0 with p | p | p
  · rcases Int.lt_trichotomy b 0 with q | q | q
    · have hx1 : 0 < x := by
        refine Classical.byContradiction fun hc => ?_
        have := Rat.mul_pos (show 0 < -x by grind) (show 0 < -((b : Int) : Rat) by have := t2 q; grind)
        have := s2 p
        grind
      rw [decide_eq_false (show ¬ 0 < a by omega), decide_eq_false (show ¬ 0 < b by omega)]
      exact ⟨⟨fun _ => rfl, fun _ => hx1⟩, ⟨fun r => by grind, fun r => absurd rfl r⟩, hx0⟩
    · exact absurd q hb
    · have hx1 : x < 0 := by
        refine Classical.byContradiction fun hc => ?_
        have := Rat.mul_pos (show 0 < x by grind) (t1 q)
        have := s2 p
        grind
      rw [decide_eq_false (show ¬ 0 < a by omega), decide_eq_true q]
      exact ⟨⟨fun r => by grind, fun r => absurd r (by decide)⟩, ⟨fun _ => by decide, fun _ => hx1⟩, hx0⟩
  · exact absurd p ha
  · rcases Int.lt_trichotomy b 0 with q | q | q
    · have hx1 : x < 0 := by
        refine Classical.byContradiction fun hc => ?_
        have := Rat.mul_pos (show 0 < x by grind) (show 0 < -((b : Int) : Rat) by have := t2 q; grind)
        have := s1 p
        grind
      rw [decide_eq_true p, decide_eq_false (show ¬ 0 < b by omega)]
      exact ⟨⟨fun r => by grind, fun r => absurd r (by decide)⟩, ⟨fun _ => by decide, fun _ => hx1⟩, hx0⟩
    · exact absurd q hb
    · have hx1 : 0 < x := by
        refine Classical.byContradiction fun hc => ?_
        have := Rat.mul_pos (show 0 < -x by grind) (t1 q)
        have := s1 p
        grind
      rw [decide_eq_true p, decide_eq_true q]
      exact ⟨⟨fun _ => rfl, fun _ => hx1⟩, ⟨fun r => by grind, fun r => absurd rfl r⟩, hx0⟩
/-- A pivot is taken. -/
theorem Elm.el {n m0 k t : Nat} {w : Nat → Int} {U0 M U : Nat → Nat → Int} {b sg : Int} {π : Nat → Rat} {Y X : Nat → Nat → Rat} (h : Elm n m0 w U0 k t M b sg U π Y X) (hk : k < n) (hp : M k k ≠ 0) :
    Elm n m0 w U0 (k + 1) t (elM k b M) (M k k) (if decide (0 < M k k) = decide (0 < b) then sg + 1 else sg - 1) U (fun a => if a = k then ((M k k : Int) : Rat) / ((b : Int) : Rat) else π a) (fun a i => if a = k then Y k i + sf (k + 1) n (fun j => ((M k j : Int) : Rat) / ((M k k : Int) : Rat) * Y j i) else Y a i) (fun i a => if k + 1 ≤ a then X i a - ((M k a : Int) : Rat) / ((M k k : Int) : Rat) * X i k else X i a) where
  kn := hk
  gd := h.gd
  at_ i j a1 a2 a3 a4 := (h.step hk hp i j a1 a2 a3 a4).2
  lead := by rw [ld_next]; exact h.at_ k k (Nat.le_refl k) hk (Nat.le_refl k) hk
  nz := hp
  sym i j a1 a2 a3 a4 := by
    unfold elM
    rw [h.sym i j (by omega) a2 (by omega) a4, h.sym i k (by omega) a2 (Nat.le_refl k) hk, h.sym k j (Nat.le_refl k) hk (by omega) a4, Int.mul_comm (M k i)]
  form x := by
    have hY := funext (ap_add n Y x k fun j => ((M k j : Int) : Rat) / ((M k k : Int) : Rat))
    rw [hY, h.form x]
    obtain ⟨y, hy⟩ : ∃ y, ap n Y x = y := ⟨_, rfl⟩
    rw [hy]
    obtain ⟨S, hS⟩ : ∃ S : Nat → Nat → Rat, (fun i j => ((M i j : Int) : Rat) / ((b : Int) : Rat)) = S := ⟨_, rfl⟩
    have hSa : ∀ i j, S i j = ((M i j : Int) : Rat) / ((b : Int) : Rat) := fun i j => by rw [← hS]
    have z : ((0 : Int) : Rat) = 0 := rfl
    have hb' : ((b : Int) : Rat) ≠ 0 := fun e => h.nz (Rat.intCast_inj.1 (e.trans z.symm))
    have hp' : ((M k k : Int) : Rat) ≠ 0 := fun e => hp (Rat.intCast_inj.1 (e.trans z.symm))
    have s0 : S k k ≠ 0 := by rw [hSa]; exact (int_div_pos h.nz hp).2.2
    rw [hS, rf_next hk (fun i a1 a2 => by rw [hSa, hSa, h.sym i k (by omega) a2 (Nat.le_refl k) hk]) s0]
    have e1 : (sf (k + 1) n fun j => S k j / S k k * y j) = sf (k + 1) n fun j => ((M k j : Int) : Rat) / ((M k k : Int) : Rat) * y j := sf_congr fun j _ _ => by rw [hSa, hSa]; grind
    have e2 : rf (k + 1) n (fun i j => S i j - S i k * S k j / S k k) y = rf (k + 1) n (fun i j => ((elM k b M i j : Int) : Rat) / ((M k k : Int) : Rat)) (fun a => if a = k then y k + sf (k + 1) n (fun j => ((M k j : Int) : Rat) / ((M k k : Int) : Rat) * y j) else y a) := rf_congr fun i j a1 a2 a3 a4 => by
      rw [if_neg (show ¬ i = k by omega), if_neg (show ¬ j = k by omega)]
      congr 1
      obtain ⟨f1, f2⟩ := h.step hk hp i j a1 a2 a3 a4
      rw [f2]
      have f3 : ((M i j * M k k - M i k * M k j : Int) : Rat) = ((b * mn (tU w U m0) (k + 1) i j : Int) : Rat) := by rw [f1]
      rw [Rat.intCast_sub, Rat.intCast_mul, Rat.intCast_mul, Rat.intCast_mul] at f3
      rw [hSa, hSa, hSa, hSa]
      grind
    rw [e1, e2]
    show _ = (sm k _ + _) + _
    dsimp only
    rw [if_pos rfl, if_pos rfl, hSa k k]
    have e3 : (sm k fun a => (if a = k then ((M k k : Int) : Rat) / ((b : Int) : Rat) else π a) * ((if a = k then y k + sf (k + 1) n (fun j => ((M k j : Int) : Rat) / ((M k k : Int) : Rat) * y j) else y a) * (if a = k then y k + sf (k + 1) n (fun j => ((M k j : Int) : Rat) / ((M k k : Int) : Rat) * y j) else y a))) = sm k fun a => π a * (y a * y a) := sm_congr fun a ha => by
      rw [if_neg (show ¬ a = k by omega), if_neg (show ¬ a = k by omega)]
    rw [e3]
    grind
  back x i hi := by
    have hY := funext (ap_add n Y x k fun j => ((M k j : Int) : Rat) / ((M k k : Int) : Rat))
    rw [hY, h.back x i hi]
    obtain ⟨y, hy⟩ : ∃ y, ap n Y x = y := ⟨_, rfl⟩
    obtain ⟨c, hc⟩ : ∃ c : Nat → Rat, (fun j => ((M k j : Int) : Rat) / ((M k k : Int) : Rat)) = c := ⟨_, rfl⟩
    have hca : ∀ j, ((M k j : Int) : Rat) / ((M k k : Int) : Rat) = c j := fun j => by rw [← hc]
    rw [hy]
    simp only [hca]
    obtain ⟨L, hL⟩ : ∃ L, (sf (k + 1) n fun j => c j * y j) = L := ⟨_, rfl⟩
    rw [hL]
    have e1 : (sm n fun a => (if k + 1 ≤ a then X i a - c a * X i k else X i a) * (if a = k then y k + L else y a)) = (sm n fun a => X i a * y a) + ((sm n fun a => if a = k then X i k * L else 0) + -1 * X i k * sf (k + 1) n fun a => c a * y a) := by
      rw [← sf_mul]
      unfold sf
      rw [← sm_add, ← sm_add]
      refine sm_congr fun a _ => ?_
      rcases Nat.lt_trichotomy a k with q | q | q
      · rw [if_neg (show ¬ k + 1 ≤ a by omega), if_neg (show ¬ a = k by omega), if_neg (show ¬ a = k by omega), if_neg (show ¬ k + 1 ≤ a by omega)]; grind
      · rw [if_neg (show ¬ k + 1 ≤ a by omega), if_pos q, if_pos q, if_neg (show ¬ k + 1 ≤ a by omega), q]; grind
      · rw [if_pos (show k + 1 ≤ a by omega), if_neg (show ¬ a = k by omega), if_neg (show ¬ a = k by omega), if_pos (show k + 1 ≤ a by omega)]; grind
    rw [e1, sm_one hk fun a _ ha => if_neg ha, if_pos rfl, hL]
    grind
  piv a ha := by
    by_cases q : a = k
    · rw [if_pos q]; exact (int_div_pos h.nz hp).2.2
    · rw [if_neg q]; exact h.piv a (by omega)
  sgn := by
    obtain ⟨d1, d2, -⟩ := int_div_pos h.nz hp
    have e : ∀ p : Rat → Bool, (List.range k).countP (fun a => p (if a = k then ((M k k : Int) : Rat) / ((b : Int) : Rat) else π a)) = (List.range k).countP fun a => p (π a) := fun p => List.countP_congr fun a ha => by
      rw [if_neg (by have := List.mem_range.1 ha; omega)]
    have e1 := e fun r => decide (0 < r)
    have e2 := e fun r => decide (r < 0)
    rw [count_next, count_next, e1, e2, if_pos rfl]
    have hs := h.sgn
    by_cases q : decide (0 < M k k) = decide (0 < b)
    · rw [if_pos q, decide_eq_true (d1.2 q), decide_eq_false (fun r => d2.1 r q)]
      simp only [if_true, Bool.false_eq_true, if_false]; omega
    · rw [if_neg q, decide_eq_false (fun r => q (d1.1 r)), decide_eq_true (d2.2 q)]
      simp only [if_true, Bool.false_eq_true, if_false]; omega
  det := h.det
/-- The beginning. -/
theorem elm_start {n m0 : Nat} {w : Nat → Int} {U : Nat → Nat → Int} (hg : Gd m0 0 U) : Elm n m0 w U 0 0 (tU w U m0) 1 0 U (fun _ => 0) idQ idQ where
  kn := Nat.zero_le _
  gd := hg
  at_ i j _ _ _ _ := by
    show _ = tU w U m0 i j * 1 - 0
    omega
  lead := rfl
  nz := by decide
  sym i j _ _ _ _ := si_congr fun c _ => by rw [Int.mul_comm (U c i)]
  form x := by
    have hY : ∀ a, a < n → ap n idQ x a = x a := fun a ha => by
      unfold ap
      rw [sm_one ha fun i _ hi => by rw [idQ_ne hi]; grind, idQ_eq]; grind
    show _ = (0 : Rat) + sf 0 n fun i => sf 0 n fun j => _
    have e : ∀ f : Nat → Rat, sf 0 n f = sm n f := fun f => sm_congr fun i _ => if_pos (Nat.zero_le i)
    have e1 : (sf 0 n fun i => sf 0 n fun j => ((tU w U m0 i j : Int) : Rat) / ((1 : Int) : Rat) * (ap n idQ x i * ap n idQ x j)) = qf n (qM (tU w U m0)) x x := by
      rw [e]
      refine sm_congr fun i hi => ?_
      rw [e]
      refine sm_congr fun j hj => ?_
      rw [hY i hi, hY j hj]
      have : ((1 : Int) : Rat) = 1 := rfl
      show _ = x i * (((tU w U m0 i j : Int) : Rat) * x j)
      rw [this]; grind
    rw [e1]; grind
  back x i hi := by
    rw [sm_one hi fun a _ ha => by rw [idQ_ne ha]; grind, idQ_eq]
    have hY : ap n idQ x i = x i := by
      unfold ap
      rw [sm_one hi fun j _ hj => by rw [idQ_ne hj]; grind, idQ_eq]; grind
    rw [hY]; grind
  piv a ha := by omega
  sgn := rfl
  det _ := rfl
theorem count_low {n k : Nat} (hk : k ≤ n) (p q : Nat → Bool) (h1 : ∀ a, a < k → p a = q a) (h2 : ∀ a, k ≤ a → p a = false) : (List.range n).countP p = (List.range k).countP q := by
  induction n with
  | zero => obtain rfl : k = 0 := by omega
            rfl
  | succ n ih =>
    rcases Nat.lt_or_ge n k with r | r
    · obtain rfl : k = n + 1 := by omega
      exact List.countP_congr fun a ha => by rw [h1 a (List.mem_range.1 ha)]
    · rw [count_next, ih r, h2 n r]; rfl
/-- The end: all is taken, or nothing is left. -/
theorem Elm.done {n m0 k t : Nat} {w : Nat → Int} {U0 M U : Nat → Nat → Int} {b sg : Int} {π : Nat → Rat} {Y X : Nat → Nat → Rat} (h : Elm n m0 w U0 k t M b sg U π Y X) (hz : ∀ i j, k ≤ i → i < n → k ≤ j → j < n → M i j = 0) :
    ∃ π', Cong n (qM (tU w U0 m0)) π' Y X ∧ sg = ((List.range n).countP (fun a => decide (0 < π' a)) : Nat) - ((List.range n).countP (fun a => decide (π' a < 0)) : Nat) ∧ (List.range n).countP (fun a => decide (0 < π' a)) + (List.range n).countP (fun a => decide (π' a < 0)) = k := by
  refine ⟨fun a => if a < k then π a else 0, ⟨fun x => ?_, h.back⟩, ?_, ?_⟩
  · rw [h.form x]
    have e1 : rf k n (fun i j => ((M i j : Int) : Rat) / ((b : Int) : Rat)) (ap n Y x) = 0 := by
      unfold rf
      rw [sf_congr (g := fun _ => 0) fun i a1 a2 => by rw [sf_congr (g := fun _ => 0) fun j a3 a4 => by dsimp only; rw [hz i j a1 a2 a3 a4]; show ((0 : Int) : Rat) / _ * _ = 0; have : ((0 : Int) : Rat) = 0 := rfl; rw [this]; grind, sf_zero], sf_zero]
    have e2 : (sm n fun a => (if a < k then π a else 0) * (ap n Y x a * ap n Y x a)) = sm k fun a => π a * (ap n Y x a * ap n Y x a) := by
      have key : ∀ m, k ≤ m → (sm m fun a => (if a < k then π a else 0) * (ap n Y x a * ap n Y x a)) = sm k fun a => π a * (ap n Y x a * ap n Y x a) := fun m => by
        induction m with
        | zero => intro hm; obtain rfl : k = 0 := by omega
                  rfl
        | succ m ih =>
          intro hm
          rcases Nat.lt_or_ge m k with r | r
          · obtain rfl : k = m + 1 := by omega
            exact sm_congr fun a ha => by rw [if_pos ha]
          · show sm m _ + (if m < k then π m else 0) * _ = _
            rw [ih r, if_neg (by omega)]; grind
      exact key n h.kn
    rw [e1, e2]; grind
  · rw [h.sgn, count_low h.kn (fun a => decide (0 < if a < k then π a else 0)) (fun a => decide (0 < π a)) (fun a ha => by rw [if_pos ha]) fun a ha => by rw [if_neg (by omega)]; rfl, count_low h.kn (fun a => decide ((if a < k then π a else 0) < 0)) (fun a => decide (π a < 0)) (fun a ha => by rw [if_pos ha]) fun a ha => by rw [if_neg (by omega)]; rfl]
  · rw [count_low h.kn (fun a => decide (0 < if a < k then π a else 0)) (fun a => decide (0 < π a)) (fun a ha => by rw [if_pos ha]) fun a ha => by rw [if_neg (by omega)]; rfl, count_low h.kn (fun a => decide ((if a < k then π a else 0) < 0)) (fun a => decide (π a < 0)) (fun a ha => by rw [if_pos ha]) fun a ha => by rw [if_neg (by omega)]; rfl]
    have key : ∀ m, m ≤ k → (List.range m).countP (fun a => decide (0 < π a)) + (List.range m).countP (fun a => decide (π a < 0)) = m := fun m => by
      induction m with
      | zero => exact fun _ => rfl
      | succ m ih =>
        intro hm
        have i1 := ih (by omega)
        have p := h.piv m (by omega)
        rw [count_next, count_next]
        rcases Classical.em (0 < π m) with r | r
        · rw [decide_eq_true r, decide_eq_false (show ¬ π m < 0 by grind)]; simp only [if_true, Bool.false_eq_true, if_false]; omega
        · rw [decide_eq_false r, decide_eq_true (show π m < 0 by grind)]; simp only [if_true, Bool.false_eq_true, if_false]; omega
    exact key k (Nat.le_refl _)
end Go.Proofs.Ytlcogbcpmneknaa
