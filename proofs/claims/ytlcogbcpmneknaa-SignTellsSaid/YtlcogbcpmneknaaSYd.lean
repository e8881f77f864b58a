/- Elimination by whole numbers alone, step by step; plain mathematics. -/
import Derived.Test.YtlcogbcpmneknaaSYc
import Derived.Test.YtlcogbcpmneknaaSY9P
namespace Go.Proofs.Ytlcogbcpmneknaa

def tw (p q a : Nat) : Nat := if a = p then q else if a = q then p else a
theorem tw_p (p q : Nat) : tw p q p = q := if_pos rfl
theorem tw_q (p q : Nat) : tw p q q = p := by unfold tw; split <;> simp_all
theorem tw_else {p q a : Nat} (h1 : a ≠ p) (h2 : a ≠ q) : tw p q a = a := by unfold tw; rw [if_neg h1, if_neg h2]
theorem tw_range {p q a k n : Nat} (hp : k ≤ p ∧ p < n) (hq : k ≤ q ∧ q < n) (ha : k ≤ a ∧ a < n) : k ≤ tw p q a ∧ tw p q a < n := by unfold tw; split; exact hq; split; exact hp; exact ha
theorem tw_low {p q a k : Nat} (hp : k ≤ p) (hq : k ≤ q) (ha : a < k) : tw p q a = a := tw_else (by omega) (by omega)
/-- A sum from k on. -/
def sf (k n : Nat) (f : Nat → Rat) : Rat := sm n fun i => if k ≤ i then f i else 0
theorem sf_congr {k n : Nat} {f g : Nat → Rat} (h : ∀ i, k ≤ i → i < n → f i = g i) : sf k n f = sf k n g := sm_congr fun i hi => by
  by_cases q : k ≤ i
  · rw [if_pos q, if_pos q, h i q hi]
  · rw [if_neg q, if_neg q]
theorem sf_add (k n : Nat) (f g : Nat → Rat) : sf k n (fun i => f i + g i) = sf k n f + sf k n g := by
  unfold sf
  rw [← sm_add]
  exact sm_congr fun i _ => by split <;> grind
theorem sf_mul (k n : Nat) (c : Rat) (f : Nat → Rat) : sf k n (fun i => c * f i) = c * sf k n f := by
  unfold sf
  rw [← sm_mul]
  exact sm_congr fun i _ => by split <;> grind
theorem sf_dist (k n : Nat) (f : Nat → Rat) (c : Rat) : sf k n f * c = sf k n fun i => f i * c := by
  have := sf_mul k n c f
  rw [show sf k n f * c = c * sf k n f by grind, ← this]
  exact sf_congr fun i _ _ => by grind
theorem sf_next {k n : Nat} (h : k < n) (f : Nat → Rat) : sf k n f = f k + sf (k + 1) n f := by
  have e : sf k n f = sm n fun i => (if i = k then f i else 0) + if k + 1 ≤ i then f i else 0 := sm_congr fun i _ => by
    rcases Nat.lt_trichotomy i k with q | q | q
    · rw [if_neg (by omega), if_neg (by omega), if_neg (by omega)]; grind
    · rw [if_pos (by omega), if_pos q, if_neg (by omega)]; grind
    · rw [if_pos (by omega), if_neg (by omega), if_pos (by omega)]; grind
  rw [e, sm_add, sm_one h fun i _ hi => if_neg hi, if_pos rfl]; rfl
theorem sf_zero (k n : Nat) : sf k n (fun _ => 0) = 0 := by
  unfold sf
  rw [sm_congr (g := fun _ => 0) fun i hi => ite_self _, sm_zero]
theorem sf_tw {k n p q : Nat} (hp : k ≤ p ∧ p < n) (hq : k ≤ q ∧ q < n) (f : Nat → Rat) : sf k n (fun i => f (tw p q i)) = sf k n f := by
  by_cases h : p = q
  · subst h
    refine sf_congr fun i _ _ => ?_
    congr 1
    unfold tw; split <;> simp_all
  · have e := sm_two (f := fun i => if k ≤ i then f (tw p q i) else 0) (g := fun i => if k ≤ i then f i else 0) hp.2 hq.2 h fun i _ a b => by simp only [tw_else a b]
    simp only [if_pos hp.1, if_pos hq.1, tw_p, tw_q] at e
    unfold sf
    grind
/-- The form of what is left. -/
def rf (k n : Nat) (S : Nat → Nat → Rat) (y : Nat → Rat) : Rat := sf k n fun i => sf k n fun j => S i j * (y i * y j)
theorem rf_congr {k n : Nat} {S S' : Nat → Nat → Rat} {y y' : Nat → Rat} (h : ∀ i j, k ≤ i → i < n → k ≤ j → j < n → S i j * (y i * y j) = S' i j * (y' i * y' j)) : rf k n S y = rf k n S' y' :=
  sf_congr fun i h1 h2 => sf_congr fun j h3 h4 => h i j h1 h2 h3 h4
theorem rf_tw {k n p q : Nat} (hp : k ≤ p ∧ p < n) (hq : k ≤ q ∧ q < n) (S : Nat → Nat → Rat) (y : Nat → Rat) : rf k n (fun i j => S (tw p q i) (tw p q j)) (fun i => y (tw p q i)) = rf k n S y := by
  unfold rf
  rw [sf_tw hp hq fun i => sf k n fun j => S i (tw p q j) * (y i * y (tw p q j))]
  exact sf_congr fun i _ _ => sf_tw hp hq fun j => S i j * (y i * y j)
/-- One square is taken off. -/
theorem rf_next {k n : Nat} (hk : k < n) {S : Nat → Nat → Rat} {y : Nat → Rat} (hs : ∀ i, k < i → i < n → S i k = S k i) (h0 : S k k ≠ 0) :
    rf k n S y = S k k * ((y k + sf (k + 1) n fun j => S k j / S k k * y j) * (y k + sf (k + 1) n fun j => S k j / S k k * y j)) + rf (k + 1) n (fun i j => S i j - S i k * S k j / S k k) y := by
  obtain ⟨L, hL⟩ : ∃ L, (sf (k + 1) n fun j => S k j * y j) = L := ⟨_, rfl⟩
  have e1 : (sf (k + 1) n fun j => S k j / S k k * y j) = L / S k k := by
    rw [← hL, Rat.div_def, sf_dist]
    exact sf_congr fun j _ _ => by rw [Rat.div_def]; grind
  have e2 : rf k n S y = S k k * (y k * y k) + y k * L + (y k * L + sf (k + 1) n fun i => sf (k + 1) n fun j => S i j * (y i * y j)) := by
    unfold rf
    rw [sf_next hk, sf_next hk]
    have a1 : (sf (k + 1) n fun j => S k j * (y k * y j)) = y k * L := by rw [← hL, ← sf_mul]; exact sf_congr fun j _ _ => by grind
    have a2 : (sf (k + 1) n fun i => sf k n fun j => S i j * (y i * y j)) = y k * L + sf (k + 1) n fun i => sf (k + 1) n fun j => S i j * (y i * y j) := by
      rw [← hL, ← sf_mul, ← sf_add]
      refine sf_congr fun i h1 h2 => ?_
      rw [sf_next hk, hs i h1 h2]; grind
    rw [a1, a2]
  have e3 : rf (k + 1) n (fun i j => S i j - S i k * S k j / S k k) y = (sf (k + 1) n fun i => sf (k + 1) n fun j => S i j * (y i * y j)) + -1 / S k k * (L * L) := by
    unfold rf
    have a1 : L * L = sf (k + 1) n fun i => sf (k + 1) n fun j => (S k i * y i) * (S k j * y j) := by
      rw [show L * L = (sf (k + 1) n fun j => S k j * y j) * L by rw [hL], sf_dist]
      refine sf_congr fun i _ _ => ?_
      rw [← hL, ← sf_mul]
    rw [a1, ← sf_mul, ← sf_add]
    refine sf_congr fun i h1 h2 => ?_
    rw [← sf_mul, ← sf_add]
    refine sf_congr fun j _ _ => ?_
    show (S i j - S i k * S k j / S k k) * (y i * y j) = _
    rw [hs i h1 h2]; grind
  rw [e1, e2, e3]
  grind
/-- All that is known under way. -/
structure Elm (n m0 : Nat) (w : Nat → Int) (U0 : Nat → Nat → Int) (k t : Nat) (M : Nat → Nat → Int) (b sg : Int) (U : Nat → Nat → Int) (π : Nat → Rat) (Y X : Nat → Nat → Rat) : Prop where
  kn : k ≤ n
  gd : Gd m0 t U
  at_ : ∀ i j, k ≤ i → i < n → k ≤ j → j < n → M i j = mn (tU w U m0) k i j
  lead : b = ld (tU w U m0) k
  nz : b ≠ 0
  sym : ∀ i j, k ≤ i → i < n → k ≤ j → j < n → M i j = M j i
  form : ∀ x, qf n (qM (tU w U0 m0)) x x = (sm k fun a => π a * (ap n Y x a * ap n Y x a)) + rf k n (fun i j => ((M i j : Int) : Rat) / ((b : Int) : Rat)) (ap n Y x)
  back : ∀ x i, i < n → x i = sm n fun a => X i a * ap n Y x a
  piv : ∀ a, a < k → π a ≠ 0
  sgn : sg = ((List.range k).countP (fun a => decide (0 < π a)) : Nat) - ((List.range k).countP (fun a => decide (π a < 0)) : Nat)
  det : ∀ S : List Nat, (dZ (S.map U) (dn n)).natAbs = (dZ (S.map U0) (dn n)).natAbs
theorem mn_sw {T : Nat → Nat → Int} {k p q : Nat} (hp : k ≤ p) (hq : k ≤ q) (i j : Nat) : mn (fun a b => T (tw p q a) (tw p q b)) k i j = mn T k (tw p q i) (tw p q j) := by
  unfold mn
  have e1 := dZ_map (tw p q) (T (tw p q i) :: (dn k).map T) (j :: dn k)
  rw [List.map_cons, List.map_congr_left (f := tw p q) (g := id) (l := dn k) fun a ha => tw_low hp hq (dn_mem.1 ha), List.map_id, List.map_cons, List.map_map] at e1
  rw [e1]
  congr 2
  exact List.map_congr_left fun a ha => funext fun b => by show T (tw p q a) _ = T a _; rw [tw_low hp hq (dn_mem.1 ha)]
theorem ld_sw {T : Nat → Nat → Int} {k p q : Nat} (hp : k ≤ p) (hq : k ≤ q) : ld (fun a b => T (tw p q a) (tw p q b)) k = ld T k := by
  unfold ld
  exact dZ_ext _ _ _ _ fun a ha b hb => by rw [tw_low hp hq (dn_mem.1 ha), tw_low hp hq (dn_mem.1 hb)]
theorem tw_perm {p q n : Nat} (hp : p < n) (hq : q < n) : ((dn n).map (tw p q)).Perm (dn n) := by
  have hinj : ∀ a b, tw p q a = tw p q b → a = b := fun a b e => by
    unfold tw at e
    split at e <;> split at e <;> (try split at e) <;> (try split at e) <;> omega
  have hn : ((dn n).map (tw p q)).Nodup := List.pairwise_map.2 ((dn_nodup n).imp fun hab e => hab (hinj _ _ e))
  refine (List.perm_ext_iff_of_nodup hn (dn_nodup n)).2 fun x => ?_
  rw [List.mem_map, dn_mem]
  constructor
  · rintro ⟨a, ha, rfl⟩
    exact (tw_range (k := 0) ⟨Nat.zero_le _, hp⟩ ⟨Nat.zero_le _, hq⟩ ⟨Nat.zero_le _, dn_mem.1 ha⟩).2
  · intro hx
    refine ⟨tw p q x, dn_mem.2 (tw_range (k := 0) ⟨Nat.zero_le _, hp⟩ ⟨Nat.zero_le _, hq⟩ ⟨Nat.zero_le _, hx⟩).2, ?_⟩
    unfold tw; split <;> split <;> (try split) <;> omega
theorem ap_tw (n : Nat) (Y : Nat → Nat → Rat) (x : Nat → Rat) (p q : Nat) : ap n (fun a => Y (tw p q a)) x = fun a => ap n Y x (tw p q a) := rfl
/-- Two rows are traded, and two columns. -/
theorem Elm.sw {n m0 k t p q : Nat} {w : Nat → Int} {U0 M U : Nat → Nat → Int} {b sg : Int} {π : Nat → Rat} {Y X : Nat → Nat → Rat} (h : Elm n m0 w U0 k t M b sg U π Y X) (hp : k ≤ p ∧ p < n) (hq : k ≤ q ∧ q < n) : Elm n m0 w U0 k t (fun i j => M (tw p q i) (tw p q j)) b sg (swC p q U) π (fun a => Y (tw p q a)) (fun i a => X i (tw p q a)) where
  kn := h.kn
  gd := gd_sw h.gd
  at_ i j a1 a2 a3 a4 := by
    have r1 := tw_range hp hq ⟨a1, a2⟩
    have r2 := tw_range hp hq ⟨a3, a4⟩
    rw [h.at_ _ _ r1.1 r1.2 r2.1 r2.2, ← mn_sw hp.1 hq.1]; rfl
  lead := by rw [h.lead, ← ld_sw hp.1 hq.1]; rfl
  nz := h.nz
  sym i j a1 a2 a3 a4 := by
    have r1 := tw_range hp hq ⟨a1, a2⟩
    have r2 := tw_range hp hq ⟨a3, a4⟩
    exact h.sym _ _ r1.1 r1.2 r2.1 r2.2
  form x := by
    rw [h.form, ap_tw, rf_tw hp hq (fun i j => ((M i j : Int) : Rat) / ((b : Int) : Rat)) (ap n Y x)]
    congr 1
    exact sm_congr fun a ha => by dsimp only; rw [tw_low hp.1 hq.1 ha]
  back x i hi := by
    rw [h.back x i hi, ap_tw]
    have e := sf_tw (k := 0) ⟨Nat.zero_le p, hp.2⟩ ⟨Nat.zero_le q, hq.2⟩ fun a => X i a * ap n Y x a
    have e2 : ∀ f : Nat → Rat, sf 0 n f = sm n f := fun f => sm_congr fun i _ => if_pos (Nat.zero_le i)
    rw [e2, e2] at e
    exact e.symm
  piv := h.piv
  sgn := h.sgn
  det S := by
    rw [← h.det S]
    have e := dZ_map (tw p q) (S.map U) (dn n)
    rw [List.map_map] at e
    have e2 : S.map (swC p q U) = S.map ((fun r c => r (tw p q c)) ∘ U) := rfl
    rw [e2, ← e]
    exact dZ_perm _ (tw_perm hp.2 hq.2)
/-- A row is added to another one, and its column. -/
def adM (p q : Nat) (M : Nat → Nat → Int) (i j : Nat) : Int := (if j = p then M i p + M i q else M i j) + (if i = p then (if j = p then M q p + M q q else M q j) else 0)
theorem tU_adC (w : Nat → Int) (U : Nat → Nat → Int) (m p q i j : Nat) : tU w (adC p q U) m i j = adM p q (tU w U m) i j := by
  unfold tU adC adM
  by_cases h1 : i = p <;> by_cases h2 : j = p <;> simp only [h1, h2, if_true, if_false]
  · rw [← si_add, ← si_add, ← si_add]; exact si_congr fun c _ => by grind
  · rw [← si_add]; exact si_congr fun c _ => by grind
  · rw [← si_add, Int.add_zero]; exact si_congr fun c _ => by grind
  · rw [Int.add_zero]
theorem mn_ad {T : Nat → Nat → Int} {k p q : Nat} (hp : k ≤ p) (i j : Nat) : mn (adM p q T) k i j = adM p q (mn T k) i j := by
  have low : ∀ a, a ∈ dn k → a ≠ p := fun a ha => by have := dn_mem.1 ha; omega
  -- columns
  let T1 : Nat → Nat → Int := fun a b => if b = p then T a p + T a q else T a b
  have c1 : ∀ a j, mn T1 k a j = if j = p then mn T k a p + mn T k a q else mn T k a j := fun a j => by
    by_cases hj : j = p
    · rw [if_pos hj, hj]
      have e := dZ_cadd T (fun a b => if b = p then T a q else T a b) T1 p (a :: dn k) (dn k) (fun l _ => by show (if p = p then T l p + T l q else _) = _ + if p = p then T l q else _; rw [if_pos rfl, if_pos rfl]) fun l _ x hx => by
        have := low x hx
        show (if x = p then _ else T l x) = _ ∧ (if x = p then _ else T l x) = if x = p then _ else T l x
        rw [if_neg this, if_neg this]; exact ⟨rfl, rfl⟩
      have e2 := dZ_cname T (fun a b => if b = p then T a q else T a b) p q (a :: dn k) (dn k) (fun l _ => if_pos rfl) fun l _ x hx => if_neg (low x hx)
      rw [e2] at e
      exact e
    · rw [if_neg hj]
      exact dZ_ext T1 T (a :: dn k) (j :: dn k) fun l _ x hx => if_neg (by
        rcases List.mem_cons.1 hx with r | r
        · rw [r]; exact hj
        · exact low x r)
  -- rows
  have r0 : (dn k).map (adM p q T) = (dn k).map T1 := List.map_congr_left fun a ha => funext fun b => by
    show _ + (if a = p then _ else 0) = T1 a b
    rw [if_neg (low a ha)]; exact Int.add_zero _
  have r1 : mn (adM p q T) k i j = mn T1 k i j + if i = p then mn T1 k q j else 0 := by
    unfold mn
    rw [r0]
    by_cases hi : i = p
    · rw [if_pos hi]
      have e := dZ_lin [] ((dn k).map T1) (T1 i) (T1 q) 1 (j :: dn k)
      rw [List.nil_append, List.nil_append, List.nil_append, Int.one_mul] at e
      rw [← e]
      congr 2
      funext b
      show T1 i b + (if i = p then T1 q b else 0) = _
      rw [if_pos hi, Int.one_mul]
    · rw [if_neg hi, Int.add_zero]
      congr 2
      funext b
      show T1 i b + (if i = p then _ else 0) = _
      rw [if_neg hi, Int.add_zero]
  rw [r1, c1, c1]
  rfl
theorem ld_ad {T : Nat → Nat → Int} {k p q : Nat} (hp : k ≤ p) : ld (adM p q T) k = ld T k := dZ_ext _ _ _ _ fun a ha b hb => by
  have h1 := dn_mem.1 ha
  have h2 := dn_mem.1 hb
  unfold adM
  rw [if_neg (by omega), if_neg (by omega), Int.add_zero]
def adY (p q : Nat) (Y : Nat → Nat → Rat) (a i : Nat) : Rat := if a = q then Y q i - Y p i else Y a i
theorem ap_adY (n : Nat) (Y : Nat → Nat → Rat) (x : Nat → Rat) (p q a : Nat) : ap n (adY p q Y) x a = if a = q then ap n Y x q - ap n Y x p else ap n Y x a := by
  unfold ap adY
  by_cases h : a = q
  · simp only [if_pos h]
    have : (sm n fun i => (Y q i - Y p i) * x i) = (sm n fun i => Y q i * x i) + -1 * sm n fun i => Y p i * x i := by
      rw [← sm_mul, ← sm_add]; exact sm_congr fun i _ => by grind
    rw [this]; grind
  · simp only [if_neg h]
theorem Elm.ad {n m0 k t p q : Nat} {w : Nat → Int} {U0 M U : Nat → Nat → Int} {b sg : Int} {π : Nat → Rat} {Y X : Nat → Nat → Rat} (h : Elm n m0 w U0 k t M b sg U π Y X) (hp : k ≤ p ∧ p < n) (hq : k ≤ q ∧ q < n) (hpq : p ≠ q) : Elm n m0 w U0 k (t + 1) (adM p q M) b sg (adC p q U) π (adY p q Y) (fun i a => if a = p then X i p + X i q else X i a) where
  kn := h.kn
  gd := gd_ad h.gd
  at_ i j a1 a2 a3 a4 := by
    have e : tU w (adC p q U) m0 = adM p q (tU w U m0) := funext fun a => funext fun c => tU_adC w U m0 p q a c
    rw [e, mn_ad hp.1]
    unfold adM
    rw [h.at_ i p a1 a2 hp.1 hp.2, h.at_ i q a1 a2 hq.1 hq.2, h.at_ i j a1 a2 a3 a4, h.at_ q p hq.1 hq.2 hp.1 hp.2, h.at_ q q hq.1 hq.2 hq.1 hq.2, h.at_ q j hq.1 hq.2 a3 a4]
  lead := by
    have e : tU w (adC p q U) m0 = adM p q (tU w U m0) := funext fun a => funext fun c => tU_adC w U m0 p q a c
    rw [e, ld_ad hp.1]; exact h.lead
  nz := h.nz
  sym i j a1 a2 a3 a4 := by
    have s1 := h.sym i p a1 a2 hp.1 hp.2
    have s2 := h.sym i q a1 a2 hq.1 hq.2
    have s3 := h.sym i j a1 a2 a3 a4
    have s4 := h.sym q p hq.1 hq.2 hp.1 hp.2
    have s5 := h.sym q j hq.1 hq.2 a3 a4
    have s6 := h.sym j p a3 a4 hp.1 hp.2
    unfold adM
    by_cases e1 : i = p <;> by_cases e2 : j = p <;> simp only [e1, e2, if_true, if_false] <;> (try subst e1) <;> (try subst e2) <;> omega
  form x := by
    have hY : ap n (adY p q Y) x = fun a => if a = q then ap n Y x q - ap n Y x p else ap n Y x a := funext fun a => ap_adY n Y x p q a
    rw [h.form, hY]
    congr 1
    · exact sm_congr fun a ha => by dsimp only; rw [if_neg (by omega)]
    · obtain ⟨y, hy⟩ : ∃ y, ap n Y x = y := ⟨_, rfl⟩
      rw [hy]
      obtain ⟨y', hy'⟩ : ∃ y' : Nat → Rat, (fun a => if a = q then y q - y p else y a) = y' := ⟨_, rfl⟩
      rw [hy']
      have yq : y' q = y q - y p := by rw [← hy']; exact if_pos rfl
      have yo : ∀ a, a ≠ q → y' a = y a := fun a ha => by rw [← hy']; exact if_neg ha
      -- the inner sums
      have key : ∀ (g : Nat → Rat), (sf k n fun j => (if j = p then g p + g q else g j) * y' j) = sf k n fun j => g j * y j := fun g => by
        have e := sm_two (f := fun j => if k ≤ j then (if j = p then g p + g q else g j) * y' j else 0) (g := fun j => if k ≤ j then g j * y j else 0) hp.2 hq.2 hpq fun j _ a1 a2 => by simp only [if_neg a1, yo j a2]
        simp only [if_pos hp.1, if_pos hq.1, if_true, if_neg (Ne.symm hpq), yq, yo p hpq] at e
        unfold sf
        grind
      obtain ⟨S, hS⟩ : ∃ S : Nat → Nat → Rat, (fun i j => ((M i j : Int) : Rat) / ((b : Int) : Rat)) = S := ⟨_, rfl⟩
      have eS : ∀ i j, ((adM p q M i j : Int) : Rat) / ((b : Int) : Rat) = (if j = p then S i p + S i q else S i j) + if i = p then (if j = p then S q p + S q q else S q j) else 0 := fun i j => by
        rw [← hS]
        unfold adM
        by_cases e1 : i = p <;> by_cases e2 : j = p <;> simp only [e1, e2, if_true, if_false] <;> simp only [Rat.intCast_add, Rat.div_def] <;> grind
      rw [hS]
      have e1 : rf k n S y = sf k n fun i => (sf k n fun j => S i j * y j) * y i := sf_congr fun i _ _ => by rw [sf_dist]; exact sf_congr fun j _ _ => by grind
      have e2 : rf k n (fun i j => ((adM p q M i j : Int) : Rat) / ((b : Int) : Rat)) y' = sf k n fun i => (if i = p then (sf k n fun j => S p j * y j) + (sf k n fun j => S q j * y j) else sf k n fun j => S i j * y j) * y' i := sf_congr fun i _ _ => by
        have e3 : (sf k n fun j => ((adM p q M i j : Int) : Rat) / ((b : Int) : Rat) * (y' i * y' j)) = (sf k n fun j => ((if j = p then S i p + S i q else S i j) * y' j) + (if i = p then (if j = p then S q p + S q q else S q j) * y' j else 0)) * y' i := by
          rw [sf_dist]
          refine sf_congr fun j _ _ => ?_
          rw [eS]; split <;> grind
        rw [e3, sf_add, key (S i)]
        by_cases hi : i = p
        · simp only [if_pos hi]
          rw [key (S q), hi]
        · simp only [if_neg hi]
          rw [sf_zero]; grind
      rw [e1, e2, key fun i => sf k n fun j => S i j * y j]
  back x i hi := by
    have hY : ap n (adY p q Y) x = fun a => if a = q then ap n Y x q - ap n Y x p else ap n Y x a := funext fun a => ap_adY n Y x p q a
    rw [h.back x i hi, hY]
    have e := sm_two (f := fun a => (if a = p then X i p + X i q else X i a) * (if a = q then ap n Y x q - ap n Y x p else ap n Y x a)) (g := fun a => X i a * ap n Y x a) hp.2 hq.2 hpq fun a _ a1 a2 => by simp only [if_neg a1, if_neg a2]
    simp only [if_true, if_neg hpq, if_neg (Ne.symm hpq)] at e
    grind
  piv := h.piv
  sgn := h.sgn
  det S := by
    rw [← h.det S]
    have hpm : p ∈ dn n := dn_mem.2 hp.2
    obtain ⟨A, B, hAB⟩ := List.append_of_mem hpm
    have hperm : (dn n).Perm (p :: (A ++ B)) := by rw [hAB]; exact List.perm_middle
    obtain ⟨n1, -⟩ := List.nodup_cons.1 (hperm.nodup (dn_nodup n))
    rw [dZ_perm _ hperm, dZ_perm _ hperm]
    have e1 := dZ_cadd U (fun c a => if a = p then U c q else U c a) (adC p q U) p S (A ++ B) (fun c _ => by unfold adC; rw [if_pos rfl, if_pos rfl]) fun c _ x hx => by
      have : x ≠ p := fun e => n1 (e ▸ hx)
      unfold adC
      rw [if_neg this, if_neg this]; exact ⟨rfl, rfl⟩
    have e2 := dZ_cname U (fun c a => if a = p then U c q else U c a) p q S (A ++ B) (fun c _ => if_pos rfl) fun c _ x hx => if_neg fun e => n1 (by rw [← e]; exact hx)
    have hqm : q ∈ A ++ B := by
      have := hperm.mem_iff.1 (dn_mem.2 hq.2)
      rcases List.mem_cons.1 this with r | r
      · exact absurd r.symm hpq
      · exact r
    rw [e1, e2, dZ_dup _ q _ hqm, Int.add_zero]
end Go.Proofs.Ytlcogbcpmneknaa
