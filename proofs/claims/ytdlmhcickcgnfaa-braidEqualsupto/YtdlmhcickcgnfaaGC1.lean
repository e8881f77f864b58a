/- What comes of a word by the relations has the same normal form and tells the same; Delta: plain mathematics. -/
import Derived.Test.YtdlmhcickcgnfaaGC0
import Derived.Test.YtdlmhcickcgnfaaGB8
namespace Go.Proofs.Ytdlmhcickcgnfaa

/-- States on which letters act by the relations of braids. -/
structure Bact (σ : Type) (f : σ → Int → σ) (ok : σ → Prop) (n : Nat) : Prop where
  step : ∀ S x, ok S → LtN n x → ok (f S x)
  neg : ∀ S x, ok S → LtN n x → f (f S x) (-x) = S
  far : ∀ S (a b : Nat), ok S → a + 1 < n → b + 1 < n → (a + 1 < b ∨ b + 1 < a) → f (f S ((a + 1 : Nat) : Int)) ((b + 1 : Nat) : Int) = f (f S ((b + 1 : Nat) : Int)) ((a + 1 : Nat) : Int)
  near : ∀ S (a b : Nat), ok S → a + 1 < n → b + 1 < n → (a + 1 = b ∨ b + 1 = a) → f (f (f S ((a + 1 : Nat) : Int)) ((b + 1 : Nat) : Int)) ((a + 1 : Nat) : Int) = f (f (f S ((b + 1 : Nat) : Int)) ((a + 1 : Nat) : Int)) ((b + 1 : Nat) : Int)
theorem ltN_pos {n a : Nat} (h : a + 1 < n) : LtN n ((a + 1 : Nat) : Int) := ⟨by omega, by omega⟩
theorem ltN_neg {n : Nat} {x : Int} (h : LtN n x) : LtN n (-x) := ⟨by have := h.1; omega, by have := h.2; omega⟩
/-- What the law lays into a word. -/
def relL (a b : Nat) : List Int :=
  if a = b + 1 ∨ b = a + 1 then [((a + 1 : Nat) : Int), ((b + 1 : Nat) : Int), ((a + 1 : Nat) : Int), -((b + 1 : Nat) : Int), -((a + 1 : Nat) : Int), -((b + 1 : Nat) : Int)]
  else if a = b then [((a + 1 : Nat) : Int), -((a + 1 : Nat) : Int)] else [((a + 1 : Nat) : Int), ((b + 1 : Nat) : Int), -((a + 1 : Nat) : Int), -((b + 1 : Nat) : Int)]
theorem relL_lt {n a b : Nat} (ha : a + 1 < n) (hb : b + 1 < n) : ∀ x ∈ relL a b, LtN n x := by
  have h1 := ltN_pos ha
  have h2 := ltN_pos hb
  have h3 := ltN_neg h1
  have h4 := ltN_neg h2
  unfold relL
  split
  · simp only [List.mem_cons, List.not_mem_nil, or_false]; rintro x (rfl | rfl | rfl | rfl | rfl | rfl) <;> assumption
  · split
    · simp only [List.mem_cons, List.not_mem_nil, or_false]; rintro x (rfl | rfl) <;> assumption
    · simp only [List.mem_cons, List.not_mem_nil, or_false]; rintro x (rfl | rfl | rfl | rfl) <;> assumption
theorem Bact.rel {σ : Type} {f : σ → Int → σ} {ok : σ → Prop} {n : Nat} (h : Bact σ f ok n) {S : σ} (hS : ok S) {a b : Nat} (ha : a + 1 < n) (hb : b + 1 < n) : (relL a b).foldl f S = S := by
  have h1 := ltN_pos ha
  have h2 := ltN_pos hb
  have sb := h.step S _ hS h2
  unfold relL
  split
  · show f (f (f (f (f (f S _) _) _) _) _) _ = S
    rw [h.near S a b hS ha hb (by omega), h.neg _ _ (h.step _ _ sb h1) h2, h.neg _ _ sb h1, h.neg _ _ hS h2]
  · split
    · show f (f S _) _ = S
      exact h.neg _ _ hS h1
    · show f (f (f (f S _) _) _) _ = S
      rw [h.far S a b hS ha hb (by omega), h.neg _ _ sb h1, h.neg _ _ hS h2]
theorem Bact.fold {σ : Type} {f : σ → Int → σ} {ok : σ → Prop} {n : Nat} (h : Bact σ f ok n) : ∀ {w : List Int} {S : σ}, ok S → (∀ x ∈ w, LtN n x) → ok (w.foldl f S)
  | [], _, hS, _ => hS
  | x :: w, S, hS, hw => Bact.fold h (w := w) (S := f S x) (h.step S x hS (hw x (.head _))) (fun y hy => hw y (.tail _ hy))
theorem Bact.ins {σ : Type} {f : σ → Int → σ} {ok : σ → Prop} {n : Nat} (h : Bact σ f ok n) {S : σ} (hS : ok S) {u : List Int} (hu : ∀ x ∈ u, LtN n x) (k : Nat) {a b : Nat} (ha : a + 1 < n) (hb : b + 1 < n) : (u.take k ++ relL a b ++ u.drop k).foldl f S = u.foldl f S := by
  rw [List.foldl_append, List.foldl_append, h.rel (h.fold hS (fun x hx => hu x (List.mem_of_mem_take hx))) ha hb, ← List.foldl_append, List.take_append_drop]
theorem bact_nf {n : Nat} (h2 : 2 ≤ n) : Bact (Int × List (List Nat)) (cst n) (CanS n) n :=
  ⟨fun _ _ h hx => h.cst hx, fun _ _ h hx => cst_neg h2 h hx, fun _ _ _ h ha hb hab => cst_far h2 h ha hb hab, fun _ _ _ h ha hb hab => cst_near h2 h ha hb hab⟩
theorem bact_act {n : Nat} : Bact (List (List Int)) stp (fun T => RedT T ∧ T.length = n) n := by
  refine ⟨fun T x h _ => ⟨h.1.stp x, by rw [stp_len]; exact h.2⟩, fun T x h hx => ?_, fun T a b h ha hb hab => stp_far (by rw [h.2]; exact ha) (by rw [h.2]; exact hb) hab, fun T a b h ha hb hab => ?_⟩
  · have h1 := hx.1
    have h2 := hx.2
    obtain ⟨i, hi⟩ : ∃ i, x.natAbs = i + 1 := ⟨x.natAbs - 1, by omega⟩
    by_cases hp : 0 < x
    · have e : x = ((i + 1 : Nat) : Int) := by omega
      rw [e]
      exact stp_pn h.1 (by rw [h.2]; omega)
    · have e : x = -((i + 1 : Nat) : Int) := by omega
      rw [e, Int.neg_neg]
      exact stp_np h.1 (by rw [h.2]; omega)
  · rcases hab with e | e
    · subst e
      exact stp_near h.1 (by rw [h.2]; exact hb)
    · subst e
      exact (stp_near h.1 (by rw [h.2]; exact ha)).symm
theorem act0_red (n : Nat) : RedT (act0 n) ∧ (act0 n).length = n := by
  refine ⟨fun j => ?_, by simp [act0]⟩
  rw [act0_at]
  split
  · intro i hi; simp at hi
  · exact redP_nil
/-- THE RELATIONS LEAVE THE NORMAL FORM, AND WHAT ACT TELLS. -/
theorem rel_nf {n : Nat} (h2 : 2 ≤ n) {u : List Int} (hu : ∀ x ∈ u, LtN n x) (k : Nat) {a b : Nat} (ha : a + 1 < n) (hb : b + 1 < n) : nfW n (u.take k ++ relL a b ++ u.drop k) = nfW n u := (bact_nf h2).ins (canS_nil n 0) hu k ha hb
theorem actT_all (n : Nat) (w : List Int) : actT n w w.length = w.foldl stp (act0 n) := by unfold actT; rw [List.take_length]
theorem rel_act {n : Nat} {u : List Int} (hu : ∀ x ∈ u, LtN n x) (k : Nat) {a b : Nat} (ha : a + 1 < n) (hb : b + 1 < n) : actT n (u.take k ++ relL a b ++ u.drop k) (u.take k ++ relL a b ++ u.drop k).length = actT n u u.length := by
  rw [actT_all, actT_all]
  exact (bact_act (n := n)).ins (act0_red n) hu k ha hb
theorem wordN_of {n : Nat} {l : List Int} (h2 : 2 ≤ n) (h6 : n ≤ 6) (hl : l.length ≤ 20) (h : ∀ x ∈ l, LtN n x) : wordN (n : Int) l = 0 := by
  unfold wordN
  rw [if_neg (by omega), if_neg, if_neg (by omega)]
  intro q
  obtain ⟨x, hx, hb⟩ := List.any_eq_true.1 q
  obtain ⟨h3, h4⟩ := h x hx
  unfold badL at hb
  rw [decide_eq_false (show ¬ x = 0 by omega), decide_eq_false (show ¬ x ≤ -(n : Int) by omega), decide_eq_false (show ¬ (n : Int) ≤ x by omega)] at hb
  cases hb
/-- Delta as the law lays it: so many rounds. -/
def hfD (n : Nat) : Nat → List Int
  | 0 => []
  | d + 1 => hfD n d ++ mapI (n - 1 - d) (fun i => (i : Int) + 1)
theorem hf3 : (nfW 3 (hfD 3 2)).1 = 1 ∧ (nfW 3 (hfD 3 2 ++ hfD 3 2 ++ [1]) = nfW 3 ([1] ++ (hfD 3 2 ++ hfD 3 2))) ∧ (nfW 3 (hfD 3 2 ++ hfD 3 2 ++ [2]) = nfW 3 ([2] ++ (hfD 3 2 ++ hfD 3 2))) := by decide +kernel
theorem hf4 : (nfW 4 (hfD 4 3)).1 = 1 ∧ (nfW 4 (hfD 4 3 ++ hfD 4 3 ++ [1]) = nfW 4 ([1] ++ (hfD 4 3 ++ hfD 4 3))) ∧ (nfW 4 (hfD 4 3 ++ hfD 4 3 ++ [2]) = nfW 4 ([2] ++ (hfD 4 3 ++ hfD 4 3))) ∧ (nfW 4 (hfD 4 3 ++ hfD 4 3 ++ [3]) = nfW 4 ([3] ++ (hfD 4 3 ++ hfD 4 3))) := by decide +kernel
theorem hf_all {n b : Nat} (h : n = 3 ∨ n = 4) (hb : b + 1 < n) : (nfW n (hfD n (n - 1))).1 = 1 ∧ nfW n (hfD n (n - 1) ++ hfD n (n - 1) ++ [((b + 1 : Nat) : Int)]) = nfW n ([((b + 1 : Nat) : Int)] ++ (hfD n (n - 1) ++ hfD n (n - 1))) := by
  rcases h with rfl | rfl
  · have : b = 0 ∨ b = 1 := by omega
    rcases this with rfl | rfl
    · exact ⟨hf3.1, hf3.2.1⟩
    · exact ⟨hf3.1, hf3.2.2⟩
  · have : b = 0 ∨ b = 1 ∨ b = 2 := by omega
    rcases this with rfl | rfl | rfl
    · exact ⟨hf4.1, hf4.2.1⟩
    · exact ⟨hf4.1, hf4.2.2.1⟩
    · exact ⟨hf4.1, hf4.2.2.2⟩
theorem hfD_lt {n : Nat} : ∀ d, d ≤ n - 1 → ∀ x ∈ hfD n d, LtN n x
  | 0, _, x, hx => by cases hx
  | d + 1, h, x, hx => by
    rcases List.mem_append.1 hx with g | g
    · exact hfD_lt d (by omega) x g
    · unfold mapI at g
      obtain ⟨i, hi, rfl⟩ := List.mem_map.1 g
      have := List.mem_range.1 hi
      exact ⟨by omega, by omega⟩
end Go.Proofs.Ytdlmhcickcgnfaa
