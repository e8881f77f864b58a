/- Several texts of the proof, one behind the other. -/
import Derived.Test.YtbikalghmlihlaaZ1
import Derived.Test.YtbikalghmlihlaaF5P
import Derived.Test.YtbikalghmlihlaaW5P
/- Plain mathematics: in a planar diagram of one piece a set of arcs that comes to each crossing an even number of times parts two sets of faces. -/
namespace Go.Proofs.Ytbikalghmlihlaa

theorem xs_swap (h : Nat → Nat → Bool) (m n : Nat) : xs (fun i => xs (fun j => h i j) n) m = xs (fun j => xs (fun i => h i j) m) n := by
  induction m with
  | zero =>
    have : xs (fun j => xs (fun i => h i j) 0) n = false := xs_none fun _ _ => rfl
    rw [this]; rfl
  | succ m ih =>
    have : xs (fun j => xs (fun i => h i j) (m + 1)) n = xor (xs (fun j => xs (fun i => h i j) m) n) (xs (fun j => h m j) n) := by
      rw [← xs_xor]
      rfl
    rw [this, ← ih]
    rfl
theorem xs_only {n q : Nat} (hq : q < n) (b : Bool) : xs (fun j => decide (j = q) && b) n = b := by
  cases b with
  | false => exact xs_none fun _ _ => by simp
  | true => exact xs_last hq (by simp) (fun j hj => by simp; omega) (fun j h1 _ => by simp; omega)
/-- A sum in another order. -/
theorem xs_perm {M : Nat} (h : Nat → Bool) (p r : Nat → Nat) (hp : ∀ j, j < M → p j < M) (hr : ∀ q, q < M → r q < M) (h1 : ∀ j, j < M → r (p j) = j) (h2 : ∀ q, q < M → p (r q) = q) : xs h M = xs (fun q => h (r q)) M := by
  have e1 : xs h M = xs (fun j => xs (fun q => decide (q = p j) && h j) M) M := xs_congr fun j hj => (xs_only (hp j hj) (h j)).symm
  have e2 : xs (fun q => h (r q)) M = xs (fun q => xs (fun j => decide (q = p j) && h j) M) M := xs_congr fun q hq => by
    rw [← xs_only (hr q hq) (h (r q))]
    refine xs_congr fun j hj => ?_
    by_cases e : j = r q
    · subst e
      rw [h2 q hq]
      simp
    · have : ¬ q = p j := fun e3 => e (by rw [e3, h1 j hj])
      simp [e, this]
  rw [e1, e2, xs_swap]
theorem xs_two (h : Nat → Bool) (m : Nat) : xs h (2 * m) = xs (fun i => xor (h (2 * i)) (h (2 * i + 1))) m := by
  induction m with
  | zero => rfl
  | succ m ih =>
    rw [show 2 * (m + 1) = 2 * m + 1 + 1 by omega]
    simp only [xs]
    rw [ih]
    cases xs (fun i => xor (h (2 * i)) (h (2 * i + 1))) m <;> cases h (2 * m) <;> cases h (2 * m + 1) <;> rfl
theorem xs_four (h : Nat → Bool) (m : Nat) : xs h (4 * m) = xs (fun k => xor (xor (h (4 * k)) (h (4 * k + 1))) (xor (h (4 * k + 2)) (h (4 * k + 3)))) m := by
  induction m with
  | zero => rfl
  | succ m ih =>
    rw [show 4 * (m + 1) = 4 * m + 1 + 1 + 1 + 1 by omega]
    simp only [xs]
    rw [ih]
    cases xs (fun k => xor (xor (h (4 * k)) (h (4 * k + 1))) (xor (h (4 * k + 2)) (h (4 * k + 3)))) m <;> cases h (4 * m) <;> cases h (4 * m + 1) <;> cases h (4 * m + 2) <;> cases h (4 * m + 3) <;> rfl
/-- The arc at a side. -/
def aAt (C : List Cr) (k s : Nat) : Nat := ((C.getD k Cr.none).arc s).toNat
theorem en_side {C : List Cr} {loops : Int} (hm : mayD C loops = true) (k s : Nat) (hk : k < C.length) (hs : s < 4) : enC C (aAt C k s) ((C.getD k Cr.none).comes s) = k ∧ enS C (aAt C k s) ((C.getD k Cr.none).comes s) = s ∧ 1 ≤ aAt C k s ∧ aAt C k s ≤ 2 * C.length := by
  have hf := may_fit hm k s hk hs
  have g1 := hf.1
  have g2 := hf.2.1
  have ha : 1 ≤ aAt C k s ∧ aAt C k s ≤ 2 * C.length := by unfold aAt; omega
  have e := end_one hm (aAt C k s) ha.1 ha.2 ((C.getD k Cr.none).comes s) k s hk hs (by unfold aAt; omega) rfl
  refine ⟨?_, ?_, ha.1, ha.2⟩
  · unfold enC; rw [e]; rfl
  · unfold enS; rw [e]; rfl
/-- A sum over arcs' ends is a sum over crossings' sides. -/
theorem xs_sides {C : List Cr} {loops : Int} (hm : mayD C loops = true) (S d : Nat → Bool) : xs (fun i => xor (S (enC C (i + 1) true)) (S (enC C (i + 1) false)) && d (i + 1)) (2 * C.length) = xs (fun k => S k && xor (xor (d (aAt C k 0)) (d (aAt C k 1))) (xor (d (aAt C k 2)) (d (aAt C k 3)))) C.length := by
  have e1 : xs (fun i => xor (S (enC C (i + 1) true)) (S (enC C (i + 1) false)) && d (i + 1)) (2 * C.length) = xs (fun j => S (enC C (dA (j + 1)) (dB (j + 1))) && d (dA (j + 1))) (2 * (2 * C.length)) := by
    refine Eq.trans ?_ (xs_two (fun j => S (enC C (dA (j + 1)) (dB (j + 1))) && d (dA (j + 1))) (2 * C.length)).symm
    refine xs_congr fun i _ => ?_
    have a1 : dA (2 * i + 1) = i + 1 := by unfold dA; omega
    have a2 : dA (2 * i + 1 + 1) = i + 1 := by unfold dA; omega
    have b1 : dB (2 * i + 1) = false := by unfold dB; exact decide_eq_false (by omega)
    have b2 : dB (2 * i + 1 + 1) = true := by unfold dB; exact decide_eq_true (by omega)
    rw [a1, a2, b1, b2]
    cases S (enC C (i + 1) true) <;> cases S (enC C (i + 1) false) <;> cases d (i + 1) <;> rfl
  rw [e1, show 2 * (2 * C.length) = 4 * C.length by omega]
  rw [xs_perm (fun j => S (enC C (dA (j + 1)) (dB (j + 1))) && d (dA (j + 1))) (fun j => 4 * enC C (dA (j + 1)) (dB (j + 1)) + enS C (dA (j + 1)) (dB (j + 1))) (fun q => mkD (aAt C (q / 4) (q % 4)) ((C.getD (q / 4) Cr.none).comes (q % 4)) - 1)
    (fun j hj => by
      have hA := dA_le (j := j + 1) (n := C.length) (by omega) (by omega)
      have h := en_may hm (dA (j + 1)) (dB (j + 1)) hA.1 hA.2
      omega)
    (fun q hq => by
      have h := en_side hm (q / 4) (q % 4) (by omega) (by omega)
      have h2 := mk_le (p := (C.getD (q / 4) Cr.none).comes (q % 4)) h.2.2.1 h.2.2.2
      omega)
    (fun j hj => by
      have hA := dA_le (j := j + 1) (n := C.length) (by omega) (by omega)
      obtain ⟨-, h2, h3, h4, h5⟩ := en_may hm (dA (j + 1)) (dB (j + 1)) hA.1 hA.2
      have q1 : (4 * enC C (dA (j + 1)) (dB (j + 1)) + enS C (dA (j + 1)) (dB (j + 1))) / 4 = enC C (dA (j + 1)) (dB (j + 1)) := by omega
      have q2 : (4 * enC C (dA (j + 1)) (dB (j + 1)) + enS C (dA (j + 1)) (dB (j + 1))) % 4 = enS C (dA (j + 1)) (dB (j + 1)) := by omega
      simp only [q1, q2]
      have e : aAt C (enC C (dA (j + 1)) (dB (j + 1))) (enS C (dA (j + 1)) (dB (j + 1))) = dA (j + 1) := by unfold aAt; rw [h4]; omega
      rw [e, h5, mk_d (by omega)]
      omega)
    (fun q hq => by
      have h := en_side hm (q / 4) (q % 4) (by omega) (by omega)
      have h2 := mk_le (p := (C.getD (q / 4) Cr.none).comes (q % 4)) h.2.2.1 h.2.2.2
      have e : mkD (aAt C (q / 4) (q % 4)) ((C.getD (q / 4) Cr.none).comes (q % 4)) - 1 + 1 = mkD (aAt C (q / 4) (q % 4)) ((C.getD (q / 4) Cr.none).comes (q % 4)) := by omega
      simp only [e]
      rw [dA_mk h.2.2.1, dB_mk h.2.2.1, h.1, h.2.1]
      omega)]
  rw [xs_four]
  refine xs_congr fun k hk => ?_
  have side : ∀ s, s < 4 → (S (enC C (dA (mkD (aAt C ((4 * k + s) / 4) ((4 * k + s) % 4)) ((C.getD ((4 * k + s) / 4) Cr.none).comes ((4 * k + s) % 4)) - 1 + 1)) (dB (mkD (aAt C ((4 * k + s) / 4) ((4 * k + s) % 4)) ((C.getD ((4 * k + s) / 4) Cr.none).comes ((4 * k + s) % 4)) - 1 + 1))) && d (dA (mkD (aAt C ((4 * k + s) / 4) ((4 * k + s) % 4)) ((C.getD ((4 * k + s) / 4) Cr.none).comes ((4 * k + s) % 4)) - 1 + 1))) = (S k && d (aAt C k s)) := fun s hs => by
    rw [show (4 * k + s) / 4 = k by omega, show (4 * k + s) % 4 = s by omega]
    have h := en_side hm k s hk hs
    have h2 := mk_le (p := (C.getD k Cr.none).comes s) h.2.2.1 h.2.2.2
    rw [show mkD (aAt C k s) ((C.getD k Cr.none).comes s) - 1 + 1 = mkD (aAt C k s) ((C.getD k Cr.none).comes s) by omega, dA_mk h.2.2.1, dB_mk h.2.2.1, h.1]
  have s0 := side 0 (by omega)
  simp only [Nat.add_zero] at s0
  rw [s0, side 1 (by omega), side 2 (by omega), side 3 (by omega)]
  cases S k <;> cases d (aAt C k 0) <;> cases d (aAt C k 1) <;> cases d (aAt C k 2) <;> cases d (aAt C k 3) <;> rfl
/-- The corners of a crossing: what lies left of the dart that leaves at a side. -/
def cor (C : List Cr) (k s : Nat) : Nat := fo C (mkD (aAt C k s) ((C.getD k Cr.none).comes s))
/-- To the left of the dart that comes to a side lies the corner behind it. -/
theorem cor_back {C : List Cr} {loops : Int} (hm : mayD C loops = true) (k s : Nat) (hk : k < C.length) (hs : s < 4) : fo C (mkD (aAt C k s) (!(C.getD k Cr.none).comes s)) = cor C k ((s + 3) % 4) := by
  have h := en_side hm k s hk hs
  have h2 := mk_le (p := !(C.getD k Cr.none).comes s) h.2.2.1 h.2.2.2
  rw [← fo_fd hm _ h2.1 h2.2]
  unfold cor fd dC dS
  rw [dA_mk h.2.2.1, dB_mk h.2.2.1, Bool.not_not, h.1, h.2.1]
  rfl
/-- What lies on the two sides of an arc. -/
def dfE (C : List Cr) (i : Nat) : Nat × Nat := (fo C (mkD (i + 1) true), fo C (mkD (i + 1) false))
def arE (C : List Cr) (i : Nat) : Nat × Nat := (enC C (i + 1) true, enC C (i + 1) false)
def sides (C : List Cr) (g : Nat → Bool) (a : Nat) : Bool := xor (g (fo C (mkD a true))) (g (fo C (mkD a false)))
theorem sides_at {C : List Cr} {loops : Int} (hm : mayD C loops = true) (g : Nat → Bool) (k s : Nat) (hk : k < C.length) (hs : s < 4) : sides C g (aAt C k s) = xor (g (cor C k s)) (g (cor C k ((s + 3) % 4))) := by
  have h := cor_back hm k s hk hs
  unfold sides
  unfold cor at h ⊢
  rw [← h]
  cases (C.getD k Cr.none).comes s <;> simp [Bool.xor_comm]
theorem sides_even {C : List Cr} {loops : Int} (hm : mayD C loops = true) (g : Nat → Bool) (k : Nat) (hk : k < C.length) : xor (xor (sides C g (aAt C k 0)) (sides C g (aAt C k 1))) (xor (sides C g (aAt C k 2)) (sides C g (aAt C k 3))) = false := by
  rw [sides_at hm g k 0 hk (by omega), sides_at hm g k 1 hk (by omega), sides_at hm g k 2 hk (by omega), sides_at hm g k 3 hk (by omega)]
  show xor (xor (xor (g (cor C k 0)) (g (cor C k 3))) (xor (g (cor C k 1)) (g (cor C k 0)))) (xor (xor (g (cor C k 2)) (g (cor C k 1))) (xor (g (cor C k 3)) (g (cor C k 2)))) = false
  cases g (cor C k 0) <;> cases g (cor C k 1) <;> cases g (cor C k 2) <;> cases g (cor C k 3) <;> rfl
theorem cross_even {C : List Cr} {loops : Int} (hm : mayD C loops = true) (S g : Nat → Bool) : xs (fun i => xor (S (arE C i).1) (S (arE C i).2) && xor (g (dfE C i).1) (g (dfE C i).2)) (2 * C.length) = false := by
  have h := xs_sides hm S (sides C g)
  refine Eq.trans ?_ (h.trans (xs_none fun k hk => ?_))
  · rfl
  · rw [sides_even hm g k hk, Bool.and_false]
theorem rt_one {W : List Nat} {n v : Nat} (h : ∀ u, u < n → W.getD u 0 = v) : ∀ k, k ≤ n → rt W k ≤ 1 ∧ (k ≤ v → rt W k = 0) := by
  intro k
  induction k with
  | zero => intro _; exact ⟨Nat.zero_le _, fun _ => rfl⟩
  | succ k ih =>
    intro hk
    obtain ⟨i1, i2⟩ := ih (by omega)
    simp only [rt]
    have e := h k (by omega)
    by_cases hr : W.getD k 0 = k
    · rw [if_pos hr]
      have := i2 (by omega)
      exact ⟨by omega, fun _ => by omega⟩
    · rw [if_neg hr]
      exact ⟨by omega, fun _ => by have := i2 (by omega); omega⟩
theorem incl_all {E : Nat → Nat × Nat} {m : Nat} : incl E (fun _ => true) m = (List.range m).map E := by
  induction m with
  | zero => rfl
  | succ m ih => simp only [incl, if_true]; rw [ih, List.range_succ, List.map_append]; rfl
/-- All faces of a diagram of one piece are joined across arcs. -/
theorem faces_joined {C : List Cr} {loops : Int} (hm : mayD C loops = true) (h1 : ∀ k, k < C.length → Con (arcE C) 0 k) (k s : Nat) (hk : k < C.length) (hs : s < 4) : Con (incl (dfE C) (fun _ => true) (2 * C.length)) (cor C 0 0) (cor C k s) := by
  intro T hT h0
  -- across an arc
  have hedge : ∀ a, 1 ≤ a → a ≤ 2 * C.length → ∀ p q, T (fo C (mkD a p)) → T (fo C (mkD a q)) := fun a ha1 ha2 p q => by
    have he := hT _ (incl_mem.2 ⟨a - 1, by omega, rfl, rfl⟩ : dfE C (a - 1) ∈ _)
    unfold dfE at he
    rw [show a - 1 + 1 = a by omega] at he
    cases p <;> cases q <;> simp only at he ⊢
    · exact id
    · exact he.2
    · exact he.1
    · exact id
  have hturn : ∀ k s, k < C.length → s < 4 → (T (cor C k s) ↔ T (cor C k ((s + 3) % 4))) := fun k s hk hs => by
    have h := en_side hm k s hk hs
    rw [← cor_back hm k s hk hs]
    unfold cor
    exact ⟨hedge _ h.2.2.1 h.2.2.2 _ _, hedge _ h.2.2.1 h.2.2.2 _ _⟩
  have hall : ∀ k, k < C.length → (∀ s, s < 4 → (T (cor C k s) ↔ T (cor C k 0))) := fun k hk s hs => by
    have t1 := hturn k 1 hk (by omega)
    have t2 := hturn k 2 hk (by omega)
    have t3 := hturn k 3 hk (by omega)
    simp only [Nat.reduceAdd, Nat.reduceMod] at t1 t2 t3
    have : s = 0 ∨ s = 1 ∨ s = 2 ∨ s = 3 := by omega
    rcases this with rfl | rfl | rfl | rfl
    · exact Iff.rfl
    · exact t1
    · exact t2.trans t1
    · exact t3.trans (t2.trans t1)
  have key : (fun c => c < C.length → T (cor C c 0)) k := h1 k hk (fun c => c < C.length → T (cor C c 0)) (fun e he => by
    obtain ⟨i, hi, rfl⟩ := List.mem_map.1 he
    have hi2 := List.mem_range.1 hi
    have u := en_may hm (i + 1) true (by omega) (by omega)
    have v := en_may hm (i + 1) false (by omega) (by omega)
    have eu : fo C (mkD (i + 1) true) = cor C (enC C (i + 1) true) (enS C (i + 1) true) := by
      unfold cor aAt
      rw [u.2.2.2.1, u.2.2.2.2]
      rfl
    have ev : fo C (mkD (i + 1) false) = cor C (enC C (i + 1) false) (enS C (i + 1) false) := by
      unfold cor aAt
      rw [v.2.2.2.1, v.2.2.2.2]
      rfl
    have iu := hall _ u.2.1 _ u.2.2.1
    have iv := hall _ v.2.1 _ v.2.2.1
    rw [← eu] at iu
    rw [← ev] at iv
    have hx := hedge (i + 1) (by omega) (by omega)
    constructor
    · intro q _
      exact iv.1 (hx true false (iu.2 (q u.2.1)))
    · intro q _
      exact iu.1 (hx false true (iv.2 (q v.2.1)))) (fun _ => h0)
  exact (hall k hk s hs).2 (key hk)
end Go.Proofs.Ytbikalghmlihlaa
/- Plain mathematics: a planar diagram of one piece: an even set of arcs parts two sets of faces. -/
namespace Go.Proofs.Ytbikalghmlihlaa

theorem countP_all {α : Type} {p : α → Bool} {l : List α} (h : ∀ x, x ∈ l → p x = true) : l.countP p = l.length := List.countP_eq_length.2 h
/-- Euler's number of a planar diagram of one piece. -/
theorem euler_one {C : List Cr} {loops : Int} (hm : mayD C loops = true) (hp : planarB C = true) (h0 : 0 < C.length) (h1 : ∀ k, k < C.length → Con (arcE C) 0 k) : (facesM C).length = C.length + 2 := by
  have hW := whoM_least hm
  have w0 : (whoM C).getD 0 0 = 0 := by have := hW.le h0; omega
  have hall : ∀ v, v < C.length → (whoM C).getD v 0 = 0 := fun v hv => by rw [← (hW.same h0 hv).2 (h1 v hv)]; exact w0
  have h := (planarB_iff C).1 hp 0 h0 w0
  unfold exN at h
  rw [countP_all (l := headsM C) (fun g hg => decide_eq_true (hall g (headsM_lt hm g hg))), countP_all (l := List.range C.length) (fun v hv => decide_eq_true (hall v (List.mem_range.1 hv))), headsM_len, List.length_range] at h
  omega
theorem fo_cor {C : List Cr} {loops : Int} (hm : mayD C loops = true) (j : Nat) (h1 : 1 ≤ j) (h2 : j ≤ 4 * C.length) : ∃ k s, k < C.length ∧ s < 4 ∧ fo C j = cor C k s := by
  have hA := dA_le h1 h2
  have u := en_may hm (dA j) (dB j) hA.1 hA.2
  refine ⟨_, _, u.2.1, u.2.2.1, ?_⟩
  unfold cor aAt
  rw [u.2.2.2.1, u.2.2.2.2]
  show fo C j = fo C (mkD ((dA j : Int)).toNat (dB j))
  rw [Int.toNat_natCast, mk_d h1]
theorem face_cor {C : List Cr} {loops : Int} (hm : mayD C loops = true) (f : Nat) (hf : f < (facesM C).length) : ∃ k s, k < C.length ∧ s < 4 ∧ f = cor C k s := by
  obtain ⟨-, hh⟩ := facesM_facts hm
  obtain ⟨g1, -, g3⟩ := hh f hf
  have hb := g3 0 g1
  obtain ⟨k, s, hk, hs, e⟩ := fo_cor hm _ hb.1 hb.2
  refine ⟨k, s, hk, hs, ?_⟩
  rw [← e]
  have hmem : ((facesM C).getD f []).getD 0 0 ∈ (facesM C).getD f [] := at_mem g1
  exact ((pt_mem (walks_once (fd C) (4 * C.length) _ hb.1 hb.2) hf).1 hmem).symm
/-- In a planar diagram of one piece arcs that come to each crossing an even number of times part two sets of faces. -/
theorem planar_even {C : List Cr} {loops : Int} (hm : mayD C loops = true) (hp : planarB C = true) (h0 : 0 < C.length) (h1 : ∀ k, k < C.length → Con (arcE C) 0 k) (A : Nat → Bool)
    (hA : ∀ k, k < C.length → xor (xor (A (aAt C k 0)) (A (aAt C k 1))) (xor (A (aAt C k 2)) (A (aAt C k 3))) = false) : ∃ g : Nat → Bool, ∀ a, 1 ≤ a → a ≤ 2 * C.length → A a = sides C g a := by
  have hE : ∀ i, i < 2 * C.length → (arE C i).1 < C.length ∧ (arE C i).2 < C.length := fun i hi => ⟨(en_may hm (i + 1) true (by omega) (by omega)).2.1, (en_may hm (i + 1) false (by omega) (by omega)).2.1⟩
  have hD : ∀ i, i < 2 * C.length → (dfE C i).1 < (facesM C).length ∧ (dfE C i).2 < (facesM C).length := fun i hi => by
    have u := mk_le (a := i + 1) (p := true) (n := C.length) (by omega) (by omega)
    have v := mk_le (a := i + 1) (p := false) (n := C.length) (by omega) (by omega)
    exact ⟨fo_lt _ u.1 u.2, fo_lt _ v.1 v.2⟩
  have hF := euler_one hm hp h0 h1
  have r1 : rt (cls (arE C) (fun _ => true) C.length (2 * C.length)) C.length ≤ 1 := by
    have hL := cls_least (E := arE C) (K := fun _ => true) (n := C.length) (m := 2 * C.length) hE
    have e : incl (arE C) (fun _ => true) (2 * C.length) = arcE C := incl_all
    rw [e] at hL
    exact (rt_one (fun u hu => (hL.same hu h0).2 (h1 u hu).symm) _ (Nat.le_refl _)).1
  have r2 : rt (cls (dfE C) (fun _ => true) (facesM C).length (2 * C.length)) (facesM C).length ≤ 1 := by
    have hL := cls_least (E := dfE C) (K := fun _ => true) (n := (facesM C).length) (m := 2 * C.length) hD
    have hc0 : cor C 0 0 < (facesM C).length := by
      have h := en_side hm 0 0 h0 (by omega)
      have u := mk_le (p := (C.getD 0 Cr.none).comes 0) h.2.2.1 h.2.2.2
      exact fo_lt _ u.1 u.2
    refine (rt_one (fun u hu => (hL.same hu hc0).2 ?_) _ (Nat.le_refl _)).1
    obtain ⟨k, s, hk, hs, rfl⟩ := face_cor hm u hu
    exact (faces_joined hm h1 k s hk hs).symm
  obtain ⟨g, hg⟩ := sphere_even hE hD (fun S g => cross_even hm S g) (by omega) (fun i => A (i + 1)) (fun S => by
    refine Eq.trans (xs_congr fun i _ => Bool.and_comm _ _) ((xs_sides hm S A).trans (xs_none fun k hk => ?_))
    rw [hA k hk, Bool.and_false])
  refine ⟨g, fun a ha1 ha2 => ?_⟩
  have := hg (a - 1) (by omega)
  rw [show a - 1 + 1 = a by omega] at this
  rw [this]
  unfold sides dfE
  rw [show a - 1 + 1 = a by omega]
/-- The faces of a planar diagram of one piece have two shades, and they change across each arc. -/
theorem two_shades {C : List Cr} {loops : Int} (hm : mayD C loops = true) (hp : planarB C = true) (h0 : 0 < C.length) (h1 : ∀ k, k < C.length → Con (arcE C) 0 k) : ∃ g : Nat → Bool, ∀ a, 1 ≤ a → a ≤ 2 * C.length → sides C g a = true := by
  obtain ⟨g, hg⟩ := planar_even hm hp h0 h1 (fun _ => true) (fun _ _ => rfl)
  exact ⟨g, fun a ha1 ha2 => (hg a ha1 ha2).symm⟩
end Go.Proofs.Ytbikalghmlihlaa
/- Plain mathematics: a walk of one strand; how often it comes by, modulo two. -/
namespace Go.Proofs.Ytbikalghmlihlaa

/-- What comes in pairs is even. -/
theorem xs_pair {M : Nat} (h : Nat → Bool) (r : Nat → Nat) (hr : ∀ q, q < M → r q < M) (h1 : ∀ q, q < M → r (r q) = q) (h2 : ∀ q, q < M → r q ≠ q) (hs : ∀ q, q < M → h (r q) = h q) : xs h M = false := by
  have e1 : xs h M = xor (xs (fun q => h q && decide (q < r q)) M) (xs (fun q => h q && decide (r q < q)) M) := by
    rw [← xs_xor]
    refine xs_congr fun q hq => ?_
    have := h2 q hq
    rcases Nat.lt_or_gt_of_ne this with hlt | hlt
    · have : ¬ q < r q := by omega
      simp [hlt, this]
    · have : ¬ r q < q := by omega
      simp [hlt, this]
  have e2 : xs (fun q => h q && decide (r q < q)) M = xs (fun q => h q && decide (q < r q)) M := by
    rw [xs_perm (fun q => h q && decide (r q < q)) r r hr hr h1 h1]
    exact xs_congr fun q hq => by simp only [hs q hq, h1 q hq]
  rw [e1, e2, Bool.xor_self]
/-- How many between, modulo two. -/
theorem xs_between (i k M : Nat) (hik : i < k) (hk : k ≤ M) : xs (fun p => decide (i < p ∧ p < k)) M = decide ((k - i) % 2 = 0) := by
  have key : ∀ m, xs (fun p => decide (i < p ∧ p < k)) m = decide ((min m k - (i + 1)) % 2 = 1) := by
    intro m
    induction m with
    | zero => simp [xs]
    | succ m ih =>
      simp only [xs]
      rw [ih]
      by_cases h : i < m ∧ m < k
      · have e1 : min m k = m := by omega
        have e2 : min (m + 1) k = m + 1 := by omega
        rw [e1, e2, decide_eq_true h]
        have e3 : m + 1 - (i + 1) = m - (i + 1) + 1 := by omega
        rw [e3]
        by_cases h2 : (m - (i + 1)) % 2 = 1
        · rw [decide_eq_true h2, decide_eq_false (by omega)]; rfl
        · rw [decide_eq_false h2, decide_eq_true (by omega)]; rfl
      · rw [decide_eq_false h, Bool.xor_false]
        have e1 : (min m k - (i + 1)) = (min (m + 1) k - (i + 1)) := by omega
        rw [e1]
  rw [key M, show min M k = k by omega]
  by_cases h2 : (k - i) % 2 = 0
  · rw [decide_eq_true h2, decide_eq_true (by omega)]
  · rw [decide_eq_false h2, decide_eq_false (by omega)]
theorem comes_over (x : Cr) (s : Nat) (hs : s < 4) : x.comes ((s + 2) % 4) = !x.comes s := by
  have : s = 0 ∨ s = 1 ∨ s = 2 ∨ s = 3 := by omega
  unfold Cr.comes
  rcases this with rfl | rfl | rfl | rfl <;> cases x.plus <;> rfl
theorem nx_inj {C : List Cr} {loops : Int} (hm : mayD C loops = true) (a b : Nat) (h1 : 1 ≤ a) (h2 : a ≤ 2 * C.length) (h3 : 1 ≤ b) (h4 : b ≤ 2 * C.length) (e : nx C a = nx C b) : a = b := by
  obtain ⟨-, p2, p3, p4, p5⟩ := to_may hm a h1 h2
  obtain ⟨-, q2, q3, q4, q5⟩ := to_may hm b h3 h4
  obtain ⟨a1, a2, a3⟩ := nx_may hm a h1 h2
  obtain ⟨b1, b2, b3⟩ := nx_may hm b h3 h4
  have ca := comes_over (C.getD (toC C a) Cr.none) (toS C a) p3
  have cb := comes_over (C.getD (toC C b) Cr.none) (toS C b) q3
  rw [p5] at ca
  rw [q5] at cb
  have e1 := end_one hm _ a2 a3 _ _ _ p2 (Nat.mod_lt _ (by decide)) a1 ca
  have e2 := end_one hm _ b2 b3 _ _ _ q2 (Nat.mod_lt _ (by decide)) b1 cb
  rw [e] at e1
  rw [e1] at e2
  have hcc : toC C a = toC C b := by have := congrArg Prod.fst e2; simp only at this; omega
  have hss : toS C a = toS C b := by have := congrArg Prod.snd e2; simp only at this; omega
  rw [hcc, hss] at p4
  omega
end Go.Proofs.Ytbikalghmlihlaa
/- Plain mathematics: between two visits of a crossing a planar strand makes an even number of visits. -/
namespace Go.Proofs.Ytbikalghmlihlaa

/-- The other side at which a strand comes in. -/
def oS (x : Cr) (s : Nat) : Nat := if s = 0 then (if x.plus = true then 3 else 1) else 0
/-- The other arc that comes in at the crossing that an arc goes to. -/
def ot (C : List Cr) (a : Nat) : Nat := aAt C (toC C a) (oS (C.getD (toC C a) Cr.none) (toS C a))
theorem oS_in (x : Cr) (s : Nat) (hs : s < 4) (hc : x.comes s = true) : oS x s < 4 ∧ x.comes (oS x s) = true ∧ oS x (oS x s) = s ∧ (oS x s = (s + 1) % 4 ∨ oS x s = (s + 3) % 4) := by
  have : s = 0 ∨ s = 1 ∨ s = 2 ∨ s = 3 := by omega
  unfold Cr.comes at hc
  unfold oS Cr.comes
  rcases this with rfl | rfl | rfl | rfl <;> cases hp : x.plus <;> simp_all
/-- An arc that comes in at a side. -/
theorem to_sideZ {C : List Cr} {loops : Int} (hm : mayD C loops = true) (k s : Nat) (hk : k < C.length) (hs : s < 4) (hc : (C.getD k Cr.none).comes s = true) : toC C (aAt C k s) = k ∧ toS C (aAt C k s) = s ∧ 1 ≤ aAt C k s ∧ aAt C k s ≤ 2 * C.length ∧ nx C (aAt C k s) = aAt C k ((s + 2) % 4) := by
  have h := en_side hm k s hk hs
  rw [hc] at h
  have h1 : toC C (aAt C k s) = k := h.1
  have h2 : toS C (aAt C k s) = s := h.2.1
  refine ⟨h1, h2, h.2.2.1, h.2.2.2, ?_⟩
  unfold nx
  rw [h1, h2]
  rfl
theorem ot_facts {C : List Cr} {loops : Int} (hm : mayD C loops = true) (a : Nat) (h1 : 1 ≤ a) (h2 : a ≤ 2 * C.length) : toC C (ot C a) = toC C a ∧ toS C (ot C a) = oS (C.getD (toC C a) Cr.none) (toS C a) ∧ 1 ≤ ot C a ∧ ot C a ≤ 2 * C.length ∧ ot C (ot C a) = a ∧ ot C a ≠ a := by
  obtain ⟨-, p2, p3, p4, p5⟩ := to_may hm a h1 h2
  obtain ⟨o1, o2, o3, o4⟩ := oS_in _ _ p3 p5
  obtain ⟨t1, t2, t3, t4, -⟩ := to_sideZ hm _ _ p2 o1 o2
  have e : ot C (ot C a) = a := by
    show aAt C (toC C (ot C a)) (oS (C.getD (toC C (ot C a)) Cr.none) (toS C (ot C a))) = a
    unfold ot
    rw [t1, t2, o3]
    unfold aAt
    rw [p4]
    omega
  refine ⟨t1, t2, t3, t4, e, fun q => ?_⟩
  have : toS C (ot C a) = toS C a := by rw [q]
  unfold ot at this
  rw [t2] at this
  omega
/-- To the left of an arc. -/
def lf (C : List Cr) (a : Nat) : Nat := fo C (mkD a false)
theorem lf_in {C : List Cr} {loops : Int} (hm : mayD C loops = true) (a : Nat) (h1 : 1 ≤ a) (h2 : a ≤ 2 * C.length) : lf C a = cor C (toC C a) ((toS C a + 3) % 4) ∧ lf C (nx C a) = cor C (toC C a) ((toS C a + 2) % 4) := by
  obtain ⟨-, p2, p3, p4, p5⟩ := to_may hm a h1 h2
  have ea : aAt C (toC C a) (toS C a) = a := by unfold aAt; rw [p4]; omega
  constructor
  · have h := cor_back hm (toC C a) (toS C a) p2 p3
    rw [p5, ea] at h
    exact h
  · have hc := comes_over (C.getD (toC C a) Cr.none) (toS C a) p3
    rw [p5] at hc
    unfold cor
    rw [hc]
    rfl
/-- Going on, what lies to the left changes as the arc there says. -/
theorem lf_step {C : List Cr} {loops : Int} (hm : mayD C loops = true) (g : Nat → Bool) (a : Nat) (h1 : 1 ≤ a) (h2 : a ≤ 2 * C.length) : xor (g (lf C a)) (g (lf C (nx C a))) = sides C g (aAt C (toC C a) ((toS C a + 3) % 4)) := by
  obtain ⟨-, p2, p3, -, -⟩ := to_may hm a h1 h2
  rw [sides_at hm g _ _ p2 (Nat.mod_lt _ (by decide)), (lf_in hm a h1 h2).1, (lf_in hm a h1 h2).2, show ((toS C a + 3) % 4 + 3) % 4 = (toS C a + 2) % 4 by omega]
/-- The arc to the left is of the other strand. -/
theorem left_ot {C : List Cr} {loops : Int} (hm : mayD C loops = true) (a : Nat) (h1 : 1 ≤ a) (h2 : a ≤ 2 * C.length) : aAt C (toC C a) ((toS C a + 3) % 4) = ot C a ∨ aAt C (toC C a) ((toS C a + 3) % 4) = nx C (ot C a) := by
  obtain ⟨-, p2, p3, p4, p5⟩ := to_may hm a h1 h2
  obtain ⟨o1, o2, o3, o4⟩ := oS_in _ _ p3 p5
  obtain ⟨t1, t2, t3, t4, t5⟩ := to_sideZ hm _ _ p2 o1 o2
  rcases o4 with e | e
  · right
    unfold ot
    rw [t5, e, show ((toS C a + 1) % 4 + 2) % 4 = (toS C a + 3) % 4 by omega]
  · left
    unfold ot
    rw [e]
theorem tele_low (G : Nat → Bool) (i : Nat) : ∀ M, i ≤ M → xs (fun p => decide (p < i) && xor (G p) (G (p + 1))) M = xor (G 0) (G i) := by
  intro M
  have key : ∀ m, xs (fun p => decide (p < i) && xor (G p) (G (p + 1))) m = xor (G 0) (G (min m i)) := by
    intro m
    induction m with
    | zero => simp [xs]
    | succ m ih =>
      simp only [xs]
      rw [ih]
      by_cases h : m < i
      · rw [show min m i = m by omega, show min (m + 1) i = m + 1 by omega, decide_eq_true h]
        cases G 0 <;> cases G m <;> cases G (m + 1) <;> rfl
      · rw [show min m i = min (m + 1) i by omega, decide_eq_false h]
        cases G 0 <;> cases G (min (m + 1) i) <;> rfl
  intro h
  rw [key, show min M i = i by omega]
theorem tele_high (G : Nat → Bool) (k M : Nat) (h : k < M) : xs (fun p => decide (k < p) && xor (G p) (G (p + 1))) M = xor (G (k + 1)) (G M) := by
  have e : xs (fun p => decide (p < M) && xor (G p) (G (p + 1))) M = xor (xs (fun p => decide (p < k + 1) && xor (G p) (G (p + 1))) M) (xs (fun p => decide (k < p) && xor (G p) (G (p + 1))) M) := by
    rw [← xs_xor]
    refine xs_congr fun p hp => ?_
    by_cases hq : k < p
    · rw [decide_eq_true hp, decide_eq_true hq, decide_eq_false (show ¬ p < k + 1 by omega)]
      cases G p <;> cases G (p + 1) <;> rfl
    · rw [decide_eq_true hp, decide_eq_false hq, decide_eq_true (show p < k + 1 by omega)]
      cases G p <;> cases G (p + 1) <;> rfl
  rw [tele_low G M M (Nat.le_refl _), tele_low G (k + 1) M (by omega)] at e
  revert e
  cases G 0 <;> cases G M <;> cases G (k + 1) <;> cases xs (fun p => decide (k < p) && xor (G p) (G (p + 1))) M <;> simp
end Go.Proofs.Ytbikalghmlihlaa
/- Plain mathematics: between two visits of a crossing a planar strand makes an even number of visits. -/
namespace Go.Proofs.Ytbikalghmlihlaa

/-- One strand goes along all arcs. -/
structure Strand (C : List Cr) (l : List Nat) : Prop where
  len : l.length = 2 * C.length
  one : ∀ a, 1 ≤ a → a ≤ 2 * C.length → l.count a = 1
  mem : ∀ a, a ∈ l → 1 ≤ a ∧ a ≤ 2 * C.length
  next : ∀ i, i + 1 < l.length → l.getD (i + 1) 0 = nx C (l.getD i 0)
  close : nx C (l.getD (l.length - 1) 0) = l.getD 0 0
theorem strand_one {C : List Cr} {loops : Int} (hm : mayD C loops = true) {l : List Nat} (h : walksM C = [l]) : Strand C l := by
  have hc := rings_closed (nx_closed hm) (fun a b p q r s t => nx_inj hm a b p q r s t) (2 * C.length) (Nat.le_refl _)
  have hone : ∀ a, 1 ≤ a → a ≤ 2 * C.length → l.count a = 1 := fun a h1 h2 => by
    have := walks_once (nx C) (2 * C.length) a h1 h2
    have e : (walksTo (nx C) (2 * C.length) (2 * C.length)).1 = [l] := h
    rw [e] at this
    simpa using this
  have hin : l ∈ (walksTo (nx C) (2 * C.length) (2 * C.length)).1 := by
    have e : (walksTo (nx C) (2 * C.length) (2 * C.length)).1 = [l] := h
    rw [e]; exact List.mem_singleton.2 rfl
  have hmem := (walksTo_mem (nx_closed hm) (2 * C.length) (Nat.le_refl _) l hin).2.2
  refine ⟨?_, hone, hmem, (hc.2.2 l hin).1, (hc.2.2 l hin).2⟩
  have hp : l.Perm ((List.range (2 * C.length)).map (· + 1)) := by
    refine List.perm_iff_count.2 fun x => ?_
    by_cases hx : 1 ≤ x ∧ x ≤ 2 * C.length
    · have hn2 : ((List.range (2 * C.length)).map (· + 1)).Nodup := by
        unfold List.Nodup
        rw [List.pairwise_map]
        exact List.nodup_range.imp (fun hne e => hne (by omega))
      rw [hone x hx.1 hx.2, List.Nodup.count hn2, if_pos (List.mem_map.2 ⟨x - 1, List.mem_range.2 (by omega), by omega⟩)]
    · rw [List.count_eq_zero_of_not_mem (fun e => hx (hmem x e)), List.count_eq_zero_of_not_mem (fun e => by
        obtain ⟨y, hy, rfl⟩ := List.mem_map.1 e
        have := List.mem_range.1 hy
        exact hx ⟨by omega, by omega⟩)]
  have := hp.length_eq
  simpa using this
/-- At which place of the walk an arc lies. -/
def ps (l : List Nat) (a : Nat) : Nat := l.findIdx fun x => decide (x = a)
theorem Strand.ps {C : List Cr} {l : List Nat} (h : Strand C l) {a : Nat} (h1 : 1 ≤ a) (h2 : a ≤ 2 * C.length) : ps l a < 2 * C.length ∧ l.getD (ps l a) 0 = a := by
  have hmem : a ∈ l := List.one_le_count_iff.1 (by rw [h.one a h1 h2]; exact Nat.le_refl _)
  have hl : Go.Proofs.Ytbikalghmlihlaa.ps l a < l.length := List.findIdx_lt_length_of_exists ⟨a, hmem, by simp⟩
  refine ⟨by rw [← h.len]; exact hl, ?_⟩
  have := List.findIdx_getElem (p := fun x => decide (x = a)) (xs := l) (w := hl)
  rw [List.getD_eq_getElem?_getD, List.getElem?_eq_getElem hl]
  exact of_decide_eq_true this
theorem Strand.at {C : List Cr} {l : List Nat} (h : Strand C l) {p : Nat} (hp : p < 2 * C.length) : 1 ≤ l.getD p 0 ∧ l.getD p 0 ≤ 2 * C.length := h.mem _ (at_mem (by rw [h.len]; exact hp))
theorem Strand.inj {C : List Cr} {l : List Nat} (h : Strand C l) {p q : Nat} (hp : p < 2 * C.length) (hq : q < 2 * C.length) (e : l.getD p 0 = l.getD q 0) : p = q := by
  have hc : ∀ y, l.count y ≤ 1 := fun y => by
    by_cases hy : y ∈ l
    · rw [h.one y (h.mem y hy).1 (h.mem y hy).2]; exact Nat.le_refl _
    · rw [List.count_eq_zero_of_not_mem hy]; exact Nat.zero_le _
  rcases Nat.lt_trichotomy p q with hlt | he | hlt
  · exact absurd e (at_ne hc hlt (by rw [h.len]; exact hq))
  · exact he
  · exact absurd e.symm (at_ne hc hlt (by rw [h.len]; exact hp))
theorem Strand.pos {C : List Cr} {l : List Nat} (h : Strand C l) {p : Nat} (hp : p < 2 * C.length) : Go.Proofs.Ytbikalghmlihlaa.ps l (l.getD p 0) = p := by
  have ha := h.at hp
  have := h.ps ha.1 ha.2
  exact h.inj this.1 hp this.2
theorem Strand.go {C : List Cr} {l : List Nat} (h : Strand C l) {p : Nat} (hp : p < 2 * C.length) : nx C (l.getD p 0) = l.getD ((p + 1) % (2 * C.length)) 0 := by
  by_cases hq : p + 1 < 2 * C.length
  · rw [Nat.mod_eq_of_lt hq, h.next p (by rw [h.len]; exact hq)]
  · have e : p + 1 = 2 * C.length := by omega
    rw [e, Nat.mod_self, ← h.close, h.len, show 2 * C.length - 1 = p by omega]
theorem Strand.nps {C : List Cr} {l : List Nat} (h : Strand C l) {a : Nat} (h1 : 1 ≤ a) (h2 : a ≤ 2 * C.length) : Go.Proofs.Ytbikalghmlihlaa.ps l (nx C a) = (Go.Proofs.Ytbikalghmlihlaa.ps l a + 1) % (2 * C.length) := by
  have hp := h.ps h1 h2
  have hg := h.go hp.1
  rw [hp.2] at hg
  rw [hg, h.pos (Nat.mod_lt _ (by omega))]
theorem oS_only (x : Cr) (s t : Nat) (hs : s < 4) (ht : t < 4) (cs : x.comes s = true) (ct : x.comes t = true) (hne : s ≠ t) : t = oS x s := by
  have h1 : s = 0 ∨ s = 1 ∨ s = 2 ∨ s = 3 := by omega
  have h2 : t = 0 ∨ t = 1 ∨ t = 2 ∨ t = 3 := by omega
  unfold Cr.comes at cs ct
  unfold oS
  rcases h1 with rfl | rfl | rfl | rfl <;> rcases h2 with rfl | rfl | rfl | rfl <;> cases hp : x.plus <;> simp_all
theorem ot_only {C : List Cr} {loops : Int} (hm : mayD C loops = true) {a b : Nat} (h1 : 1 ≤ a) (h2 : a ≤ 2 * C.length) (h3 : 1 ≤ b) (h4 : b ≤ 2 * C.length) (e : toC C a = toC C b) (hne : a ≠ b) : ot C a = b := by
  obtain ⟨-, p2, p3, p4, p5⟩ := to_may hm a h1 h2
  obtain ⟨-, q2, q3, q4, q5⟩ := to_may hm b h3 h4
  rw [← e] at q4 q5
  have hs : toS C a ≠ toS C b := fun q => by rw [q] at p4; omega
  have := oS_only _ _ _ p3 q3 p5 q5 hs
  unfold ot aAt
  rw [← this, q4]
  omega
/-- Between the two visits of a crossing there is an even number of visits. -/
theorem even_between {C : List Cr} {loops : Int} (hm : mayD C loops = true) (hp : planarB C = true) {l : List Nat} (h : Strand C l) (hcon : ∀ k, k < C.length → Con (arcE C) 0 k) {i k : Nat} (hik : i < k) (hk : k < 2 * C.length) (he : toC C (l.getD i 0) = toC C (l.getD k 0)) : (k - i) % 2 = 1 := by
  have hi : i < 2 * C.length := by omega
  have ai := h.at hi
  have ak := h.at hk
  have hoti : ot C (l.getD i 0) = l.getD k 0 := ot_only hm ai.1 ai.2 ak.1 ak.2 he (fun q => by have := h.inj hi hk q; omega)
  have hotk : ot C (l.getD k 0) = l.getD i 0 := by rw [← hoti]; exact (ot_facts hm _ ai.1 ai.2).2.2.2.2.1
  -- the arcs from the one visit to the other
  obtain ⟨A, hAd⟩ : ∃ A : Nat → Bool, ∀ a, A a = decide (i < ps l a ∧ ps l a ≤ k) := ⟨_, fun _ => rfl⟩
  have hstep : ∀ a, 1 ≤ a → a ≤ 2 * C.length → xor (A a) (A (nx C a)) = xor (decide (ps l a = i)) (decide (ps l a = k)) := fun a h1 h2 => by
    have hpa := (h.ps h1 h2).1
    rw [hAd, hAd, h.nps h1 h2]
    generalize ps l a = q at hpa
    have hmod : (q + 1) % (2 * C.length) = if q + 1 < 2 * C.length then q + 1 else 0 := by
      split
      · rename_i hq; exact Nat.mod_eq_of_lt hq
      · rw [show q + 1 = 2 * C.length by omega, Nat.mod_self]
    rw [hmod]
    by_cases e1 : q = i
    · subst e1
      rw [if_pos (by omega), decide_eq_false (show ¬ (q < q ∧ q ≤ k) by omega), decide_eq_true (show q < q + 1 ∧ q + 1 ≤ k by omega), decide_eq_true (show q = q from rfl), decide_eq_false (show ¬ q = k by omega)]
      rfl
    · by_cases e2 : q = k
      · subst e2
        rw [decide_eq_true (show i < q ∧ q ≤ q by omega), decide_eq_false (show ¬ (i < (if q + 1 < 2 * C.length then q + 1 else 0) ∧ (if q + 1 < 2 * C.length then q + 1 else 0) ≤ q) by split <;> omega), decide_eq_false e1, decide_eq_true (show q = q from rfl)]
        rfl
      · rw [decide_eq_false e1, decide_eq_false e2]
        by_cases e3 : i < q ∧ q ≤ k
        · rw [decide_eq_true e3, if_pos (by omega), decide_eq_true (show i < q + 1 ∧ q + 1 ≤ k by omega)] <;> rfl
        · rw [decide_eq_false e3, decide_eq_false (show ¬ (i < (if q + 1 < 2 * C.length then q + 1 else 0) ∧ (if q + 1 < 2 * C.length then q + 1 else 0) ≤ k) by split <;> omega)] <;> rfl
  have hpo : ∀ a, 1 ≤ a → a ≤ 2 * C.length → (ps l (ot C a) = k ↔ ps l a = i) ∧ (ps l (ot C a) = i ↔ ps l a = k) := fun a h1 h2 => by
    obtain ⟨-, -, o3, o4, o5, -⟩ := ot_facts hm a h1 h2
    have pa := h.ps h1 h2
    have po := h.ps o3 o4
    refine ⟨⟨fun q => ?_, fun q => ?_⟩, ⟨fun q => ?_, fun q => ?_⟩⟩
    · rw [q] at po
      rw [← o5, ← po.2, hotk, h.pos hi]
    · rw [q] at pa
      rw [← pa.2, hoti, h.pos hk]
    · rw [q] at po
      rw [← o5, ← po.2, hoti, h.pos hk]
    · rw [q] at pa
      rw [← pa.2, hotk, h.pos hi]
  have hev : ∀ c, c < C.length → xor (xor (A (aAt C c 0)) (A (aAt C c 1))) (xor (A (aAt C c 2)) (A (aAt C c 3))) = false := fun c hc => by
    have c0 : (C.getD c Cr.none).comes 0 = true := rfl
    obtain ⟨o1, o2, -, o4⟩ := oS_in (C.getD c Cr.none) 0 (by omega) c0
    obtain ⟨t1, t2, t3, t4, t5⟩ := to_sideZ hm c 0 hc (by omega) c0
    obtain ⟨u1, u2, u3, u4, u5⟩ := to_sideZ hm c _ hc o1 o2
    have eo : ot C (aAt C c 0) = aAt C c (oS (C.getD c Cr.none) 0) := by
      show aAt C (toC C (aAt C c 0)) (oS (C.getD (toC C (aAt C c 0)) Cr.none) (toS C (aAt C c 0))) = _
      rw [t1, t2]
    have s1 := hstep _ t3 t4
    have s2 := hstep _ u3 u4
    rw [t5] at s1
    rw [u5] at s2
    have hq := hpo _ t3 t4
    rw [eo] at hq
    have e3 : decide (ps l (aAt C c (oS (C.getD c Cr.none) 0)) = k) = decide (ps l (aAt C c 0) = i) := decide_eq_decide.2 hq.1
    have e4 : decide (ps l (aAt C c (oS (C.getD c Cr.none) 0)) = i) = decide (ps l (aAt C c 0) = k) := decide_eq_decide.2 hq.2
    rw [e3, e4] at s2
    simp only [Nat.zero_add, Nat.reduceMod] at s1 o4
    rcases o4 with e | e
    · rw [e] at s2
      simp only [Nat.reduceAdd, Nat.reduceMod] at s2
      revert s1 s2
      cases A (aAt C c 0) <;> cases A (aAt C c 1) <;> cases A (aAt C c 2) <;> cases A (aAt C c 3) <;> cases decide (ps l (aAt C c 0) = i) <;> cases decide (ps l (aAt C c 0) = k) <;> simp
    · rw [e] at s2
      simp only [Nat.reduceAdd, Nat.reduceMod] at s2
      revert s1 s2
      cases A (aAt C c 0) <;> cases A (aAt C c 1) <;> cases A (aAt C c 2) <;> cases A (aAt C c 3) <;> cases decide (ps l (aAt C c 0) = i) <;> cases decide (ps l (aAt C c 0) = k) <;> simp
  obtain ⟨g, hg⟩ := planar_even hm hp (by omega) hcon A hev
  -- the other visit
  obtain ⟨r, hr⟩ : ∃ r : Nat → Nat, ∀ p, r p = ps l (ot C (l.getD p 0)) := ⟨_, fun _ => rfl⟩
  have hrf : ∀ p, p < 2 * C.length → r p < 2 * C.length ∧ r (r p) = p ∧ r p ≠ p ∧ (r p = k ↔ p = i) ∧ (r p = i ↔ p = k) := fun p hp2 => by
    have a := h.at hp2
    obtain ⟨-, -, o3, o4, o5, o6⟩ := ot_facts hm _ a.1 a.2
    have po := h.ps o3 o4
    have hq := hpo _ a.1 a.2
    rw [h.pos hp2] at hq
    refine ⟨by rw [hr]; exact po.1, ?_, fun q => ?_, by rw [hr]; exact hq.1, by rw [hr]; exact hq.2⟩
    · rw [hr (r p), hr p, po.2, o5, h.pos hp2]
    · rw [hr] at q
      rw [q] at po
      exact o6 po.2.symm
  -- what lies to the left
  obtain ⟨G, hG⟩ : ∃ G : Nat → Bool, ∀ p, G p = g (lf C (l.getD (p % (2 * C.length)) 0)) := ⟨_, fun _ => rfl⟩
  have hleft : ∀ p, p < 2 * C.length → p ≠ i → p ≠ k → xor (G p) (G (p + 1)) = decide (i < r p ∧ r p < k) := fun p hp2 h1 h2 => by
    have a := h.at hp2
    obtain ⟨q1, q2, q3, q4, q5⟩ := hrf p hp2
    obtain ⟨-, -, o3, o4, o5, o6⟩ := ot_facts hm _ a.1 a.2
    obtain ⟨-, p2, p3, -, -⟩ := to_may hm _ a.1 a.2
    have hs := lf_step hm g _ a.1 a.2
    rw [h.go hp2] at hs
    rw [hG, hG, Nat.mod_eq_of_lt hp2, hs]
    have hside := en_side hm (toC C (l.getD p 0)) ((toS C (l.getD p 0) + 3) % 4) p2 (Nat.mod_lt _ (by decide))
    rw [← hg _ hside.2.2.1 hside.2.2.2]
    have hne1 : r p ≠ i := fun e => h2 (q5.1 e)
    have hne2 : r p ≠ k := fun e => h1 (q4.1 e)
    have hA1 : A (ot C (l.getD p 0)) = decide (i < r p ∧ r p < k) := by
      rw [hAd, ← hr]
      exact decide_eq_decide.2 ⟨fun z => ⟨z.1, by omega⟩, fun z => ⟨z.1, by omega⟩⟩
    have hA2 : A (nx C (ot C (l.getD p 0))) = A (ot C (l.getD p 0)) := by
      have := hstep _ o3 o4
      rw [← hr, decide_eq_false hne1, decide_eq_false hne2] at this
      revert this
      cases A (ot C (l.getD p 0)) <;> cases A (nx C (ot C (l.getD p 0))) <;> simp
    rcases left_ot hm _ a.1 a.2 with e | e
    · rw [e, hA1]
    · rw [e, hA2, hA1]
  -- at the crossing itself
  have hcross : G i = G (k + 1) := by
    rw [hG, hG, Nat.mod_eq_of_lt hi, ← h.go hk, (lf_in hm _ ai.1 ai.2).1, (lf_in hm _ ak.1 ak.2).2, ← he]
    obtain ⟨-, p2, p3, p4, p5⟩ := to_may hm _ ai.1 ai.2
    obtain ⟨-, -, -, o4⟩ := oS_in _ _ p3 p5
    have hto := (ot_facts hm _ ai.1 ai.2).2.1
    rw [hoti] at hto
    rcases o4 with e | e
    · rw [hto, e, show ((toS C (l.getD i 0) + 1) % 4 + 2) % 4 = (toS C (l.getD i 0) + 3) % 4 by omega]
    · rw [hto, e, show ((toS C (l.getD i 0) + 3) % 4 + 2) % 4 = (toS C (l.getD i 0) + 1) % 4 by omega]
      have w1 := sides_at hm g (toC C (l.getD i 0)) ((toS C (l.getD i 0) + 3) % 4) p2 (Nat.mod_lt _ (by decide))
      have w2 := sides_at hm g (toC C (l.getD i 0)) ((toS C (l.getD i 0) + 2) % 4) p2 (Nat.mod_lt _ (by decide))
      rw [show ((toS C (l.getD i 0) + 3) % 4 + 3) % 4 = (toS C (l.getD i 0) + 2) % 4 by omega] at w1
      rw [show ((toS C (l.getD i 0) + 2) % 4 + 3) % 4 = (toS C (l.getD i 0) + 1) % 4 by omega] at w2
      have f1 : aAt C (toC C (l.getD i 0)) ((toS C (l.getD i 0) + 3) % 4) = l.getD k 0 := by
        rw [← e, ← hoti]; rfl
      have f2 : aAt C (toC C (l.getD i 0)) ((toS C (l.getD i 0) + 2) % 4) = nx C (l.getD i 0) := rfl
      have hn := h.go hi
      rw [Nat.mod_eq_of_lt (by omega)] at hn
      have an := h.at (p := i + 1) (by omega)
      rw [f1, ← hg _ ak.1 ak.2, hAd, h.pos hk, decide_eq_true (show i < k ∧ k ≤ k by omega)] at w1
      rw [f2, hn, ← hg _ an.1 an.2, hAd, h.pos (by omega), decide_eq_true (show i < i + 1 ∧ i + 1 ≤ k by omega)] at w2
      revert w1 w2
      cases g (cor C (toC C (l.getD i 0)) ((toS C (l.getD i 0) + 3) % 4)) <;> cases g (cor C (toC C (l.getD i 0)) ((toS C (l.getD i 0) + 2) % 4)) <;> cases g (cor C (toC C (l.getD i 0)) ((toS C (l.getD i 0) + 1) % 4)) <;> simp
  have hG0 : G (2 * C.length) = G 0 := by rw [hG, hG, Nat.mod_self, Nat.zero_mod]
  -- outside, those whose other visit is inside
  have hout : xs (fun p => decide (p < i ∨ k < p) && decide (i < r p ∧ r p < k)) (2 * C.length) = false := by
    have t1 := tele_low G i (2 * C.length) (by omega)
    have t2 := tele_high G k (2 * C.length) hk
    have t3 := xs_xor (fun p => decide (p < i) && xor (G p) (G (p + 1))) (fun p => decide (k < p) && xor (G p) (G (p + 1))) (2 * C.length)
    rw [t1, t2, hG0, ← hcross] at t3
    have t4 : xor (xor (G 0) (G i)) (xor (G i) (G 0)) = false := by cases G 0 <;> cases G i <;> rfl
    rw [t4] at t3
    rw [← t3]
    refine xs_congr fun p hp2 => ?_
    by_cases e1 : p < i
    · rw [decide_eq_true e1, decide_eq_true (show p < i ∨ k < p from Or.inl e1), decide_eq_false (show ¬ k < p by omega), ← hleft p hp2 (by omega) (by omega)]
      cases xor (G p) (G (p + 1)) <;> rfl
    · by_cases e2 : k < p
      · rw [decide_eq_false e1, decide_eq_true (show p < i ∨ k < p from Or.inr e2), decide_eq_true e2, ← hleft p hp2 (by omega) (by omega)]
        cases xor (G p) (G (p + 1)) <;> rfl
      · rw [decide_eq_false e1, decide_eq_false e2, decide_eq_false (show ¬ (p < i ∨ k < p) by omega)]
        rfl
  have hin2 : xs (fun p => decide (i < p ∧ p < k) && decide (i < r p ∧ r p < k)) (2 * C.length) = false := xs_pair _ r (fun q hq => (hrf q hq).1) (fun q hq => (hrf q hq).2.1) (fun q hq => (hrf q hq).2.2.1) (fun q hq => by
    simp only [(hrf q hq).2.1]
    exact Bool.and_comm _ _)
  have hmix : xs (fun p => decide (i < p ∧ p < k) && decide (r p < i ∨ k < r p)) (2 * C.length) = false := by
    rw [xs_perm (fun p => decide (i < p ∧ p < k) && decide (r p < i ∨ k < r p)) r r (fun q hq => (hrf q hq).1) (fun q hq => (hrf q hq).1) (fun q hq => (hrf q hq).2.1) (fun q hq => (hrf q hq).2.1)]
    rw [← hout]
    refine xs_congr fun q hq => ?_
    simp only [(hrf q hq).2.1]
    exact Bool.and_comm _ _
  have hall := xs_between i k (2 * C.length) hik (by omega)
  have hsum : xs (fun p => decide (i < p ∧ p < k)) (2 * C.length) = false := by
    have t := xs_xor (fun p => decide (i < p ∧ p < k) && decide (i < r p ∧ r p < k)) (fun p => decide (i < p ∧ p < k) && decide (r p < i ∨ k < r p)) (2 * C.length)
    rw [hin2, hmix] at t
    rw [← show xor false false = false from rfl, ← t]
    refine xs_congr fun p hp2 => ?_
    obtain ⟨-, -, -, q4, q5⟩ := hrf p hp2
    by_cases e1 : i < p ∧ p < k
    · have n1 : r p ≠ i := fun e => by have := q5.1 e; omega
      have n2 : r p ≠ k := fun e => by have := q4.1 e; omega
      rw [decide_eq_true e1]
      by_cases e2 : i < r p ∧ r p < k
      · rw [decide_eq_true e2, decide_eq_false (show ¬ (r p < i ∨ k < r p) by omega)]; rfl
      · rw [decide_eq_false e2, decide_eq_true (show r p < i ∨ k < r p by omega)]; rfl
    · rw [decide_eq_false e1]; rfl
  rw [hsum] at hall
  have := of_decide_eq_false hall.symm
  omega
end Go.Proofs.Ytbikalghmlihlaa
/- Plain mathematics: of a planar diagram of one strand no crossing has two odd or two even numbers. -/
namespace Go.Proofs.Ytbikalghmlihlaa

theorem strand_step {C : List Cr} {loops : Int} (hm : mayD C loops = true) (a : Nat) (h1 : 1 ≤ a) (h2 : a ≤ 2 * C.length) : Con (arcE C) (toC C a) (toC C (nx C a)) := by
  obtain ⟨-, p2, p3, p4, p5⟩ := to_may hm a h1 h2
  obtain ⟨-, n2, n3⟩ := nx_may hm a h1 h2
  have hc := comes_over (C.getD (toC C a) Cr.none) (toS C a) p3
  rw [p5] at hc
  have he := en_side hm (toC C a) ((toS C a + 2) % 4) p2 (Nat.mod_lt _ (by decide))
  rw [hc] at he
  have e1 : enC C (nx C a) false = toC C a := he.1
  have := Con.edge (mem_arcE (C := C) n2 n3)
  rw [e1] at this
  exact this.symm
theorem strand_con {C : List Cr} {loops : Int} (hm : mayD C loops = true) {l : List Nat} (h : Strand C l) : ∀ k, k < C.length → Con (arcE C) 0 k := by
  have hall : ∀ p, p < 2 * C.length → Con (arcE C) (toC C (l.getD 0 0)) (toC C (l.getD p 0)) := by
    intro p
    induction p with
    | zero => intro _; exact Con.refl _ _
    | succ p ih =>
      intro hp
      have a := h.at (p := p) (by omega)
      have hg := h.go (p := p) (by omega)
      rw [Nat.mod_eq_of_lt hp] at hg
      have := strand_step hm _ a.1 a.2
      rw [hg] at this
      exact (ih (by omega)).trans this
  have hto : ∀ k, k < C.length → Con (arcE C) (toC C (l.getD 0 0)) k := fun k hk => by
    obtain ⟨t1, t2, t3, t4, -⟩ := to_sideZ hm k 0 hk (by omega) rfl
    have hp := h.ps t3 t4
    have := hall _ hp.1
    rw [hp.2, t1] at this
    exact this
  intro k hk
  exact (hto 0 (by omega)).symm.trans (hto k hk)
theorem planar_plane {C : List Cr} {loops : Int} (hm : mayD C loops = true) (hp : planarB C = true) {l : List Nat} (hw : walksM C = [l]) : plane (vX (visL C l)) C.length := by
  have h := strand_one hm hw
  have hx : ∀ p, p < 2 * C.length → vX (visL C l) p = toC C (l.getD p 0) := fun p hp2 => by
    have hl : p < l.length := by rw [h.len]; exact hp2
    simp [vX, visL, List.getD_eq_getElem?_getD, hl]
    rfl
  intro i k hi hk hne e
  rw [hx k hk, hx i hi] at e
  rcases Nat.lt_or_gt_of_ne hne with hlt | hlt
  · have := even_between hm hp h (strand_con hm h) hlt hi e
    omega
  · have := even_between hm hp h (strand_con hm h) hlt hk e.symm
    omega
end Go.Proofs.Ytbikalghmlihlaa
