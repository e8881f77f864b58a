/- Several texts of the proof, one behind the other. -/
import Derived.Test.YthlmkoiilgjflaaGB7
import Derived.Test.YthlmkoiilgjflaaGC0P
/- The walk of braid.Equal. -/
namespace Go.Proofs.Ythlmkoiilgjflaa
open Go.RowKit

theorem map_inj {n : Nat} : ∀ {F G : List (List Nat)}, AllP n F → AllP n G → F.map (eI n) = G.map (eI n) → F = G
  | [], [], _, _, _ => rfl
  | [], g :: G, _, _, h => by simp at h
  | f :: F, [], _, _, h => by simp at h
  | f :: F, g :: G, hF, hG, h => by
    rw [List.map_cons, List.map_cons] at h
    injection h with h1 h2
    rw [eI_inj (hF f (.head _)) (hG g (.head _)) h1, map_inj (fun z hz => hF z (.tail _ hz)) (fun z hz => hG z (.tail _ hz)) h2]
theorem wordN_lt {n : Nat} {l : List Int} (hn : wordN (n : Int) l = 0) : ∀ j, j < l.length → LtN n (l.getD j 0) := by
  obtain ⟨n2, n6, hlet, hl20⟩ := wordN_ok hn
  intro j hj
  have := hlet j hj
  exact ⟨by omega, by omega⟩
theorem wordN_mem {n : Nat} {l : List Int} (hn : wordN (n : Int) l = 0) : ∀ x ∈ l, LtN n x := by
  intro x hx
  obtain ⟨j, hj, rfl⟩ := List.mem_iff_getElem.1 hx
  have := wordN_lt hn j hj
  rwa [List.getD_eq_getElem?_getD, List.getElem?_eq_getElem hj] at this
theorem canS_nfW {n : Nat} {l : List Int} (h : ∀ x ∈ l, LtN n x) : CanS n (nfW n l) := (canS_nil n 0).fold h
theorem nfW_eq {n : Nat} {u v : List Int} (hu : ∀ x ∈ u, LtN n x) (hv : ∀ x ∈ v, LtN n x) : (decide (nfW n u = nfW n v)) = (decide ((nfW n u).1 = (nfW n v).1) && decide ((nfW n u).2.reverse.map (eI n) = (nfW n v).2.reverse.map (eI n))) := by
  rw [← Bool.decide_and]
  refine decide_eq_decide.2 ⟨fun h => by rw [h]; exact ⟨rfl, rfl⟩, fun h => ?_⟩
  have h2 := map_inj (allP_rev (canS_nfW hu).all) (allP_rev (canS_nfW hv).all) h.2
  have h3 := congrArg List.reverse h2
  rw [List.reverse_reverse, List.reverse_reverse] at h3
  exact Prod.ext h.1 h3
theorem rows_len {n : Nat} {l : List Int} : ∀ j, j < ((nfW n l).2.reverse.map (eI n)).length → (((nfW n l).2.reverse.map (eI n)).getD j []).length = n := by
  intro j hj
  rw [List.getD_eq_getElem?_getD, List.getElem?_eq_getElem hj]
  simp [eI_len]
theorem nfW_len {n : Nat} {l : List Int} (hl : ∀ j, j < l.length → LtN n (l.getD j 0)) : (nfW n l).2.length ≤ l.length := by
  have h := rawF_ok n l hl l.length (Nat.le_refl _)
  have h1 := rawF_bound n l l.length (Nat.le_refl _)
  have h2 := congrArg Prod.snd h.is
  rw [List.take_length] at h2
  have h3 := trF_le n (rawF n l l.length).2 (rawF n l l.length).2.length (Nat.le_refl _)
  rw [trF_all] at h3
  have h4 : (nfL n (rawF n l l.length).2.reverse).2 = (nfW n l).2 := h2
  rw [h4, h1.1] at h3
  simp at h3
  omega
/-- Two words handed in a row of their own. -/
theorem ints_two {W : World} {q : Nat} {va vb : Value} {a b : List Int} (hq : W.heap[q]? = some (.cells #[va, vb] 22 (0, 0))) (ha : RdAt W W.heap.size 1 va a.length (intsV a)) (hb : RdAt W W.heap.size 1 vb b.length (intsV b)) : IntsRd W W.heap.size (.slice (some ⟨q, 0, none⟩) 2 2) [a, b] := by
  refine ⟨[va, vb], rfl, ⟨_, _, rfl, fun _ => ⟨q, 0, rfl, (Array.getElem?_eq_some_iff.1 hq).1, fun j hj => ?_⟩⟩, fun j hj => ?_⟩
  · have h3 : j = 0 ∨ j = 1 := by simp at hj; omega
    rcases h3 with rfl | rfl
    · exact block_cell hq rfl
    · exact block_cell hq rfl
  · have h3 : j = 0 ∨ j = 1 := by simp at hj; omega
    rcases h3 with rfl | rfl
    · exact ha
    · exact hb
theorem wordsN_ok {n : Int} {u v : List Int} (h : wordsN n [u, v] = 0) : wordN n u = 0 ∧ wordN n v = 0 := by
  rw [wordsN_two] at h
  unfold wordN
  by_cases h1 : n < 2 ∨ 6 < n
  · rw [if_pos h1] at h; cases h
  · rw [if_neg h1] at h ⊢
    rw [if_neg h1]
    by_cases h2 : (u ++ v).any (badL n) = true
    · rw [if_pos h2] at h; cases h
    · rw [if_neg h2] at h
      rw [List.any_append] at h2
      have e1 : ¬ u.any (badL n) = true := fun e => h2 (by rw [e]; rfl)
      have e2 : ¬ v.any (badL n) = true := fun e => h2 (by rw [e, Bool.or_true])
      rw [if_neg e1, if_neg e2]
      by_cases h3 : 20 < u.length ∨ 20 < v.length
      · rw [if_pos h3] at h; cases h
      · rw [if_neg (by omega), if_neg (by omega)]
        exact ⟨rfl, rfl⟩
theorem wordsN_of {n : Int} {u v : List Int} (hu : wordN n u = 0) (hv : wordN n v = 0) : wordsN n [u, v] = 0 := by
  rw [wordsN_two]
  unfold wordN at hu hv
  by_cases h1 : n < 2 ∨ 6 < n
  · rw [if_pos h1] at hu; cases hu
  · rw [if_neg h1] at hu hv ⊢
    by_cases e1 : u.any (badL n) = true
    · rw [if_pos e1] at hu; cases hu
    · by_cases e2 : v.any (badL n) = true
      · rw [if_pos e2] at hv; cases hv
      · rw [if_neg e1] at hu
        rw [if_neg e2] at hv
        rw [if_neg (by rw [List.any_append]; simp only [Bool.or_eq_true]; exact fun q => q.elim e1 e2)]
        by_cases f1 : 20 < u.length
        · rw [if_pos f1] at hu; cases hu
        · by_cases f2 : 20 < v.length
          · rw [if_pos f2] at hv; cases hv
          · rw [if_neg (by omega)]

end Go.Proofs.Ythlmkoiilgjflaa
/- What comes of a word by the relations has the same normal form and tells the same; Delta: plain mathematics. -/
namespace Go.Proofs.Ythlmkoiilgjflaa

/-- States on which letters act by the relations of braids. -/
structure Bact (σ : Type) (f : σ → Int → σ) (ok : σ → Prop) (n : Nat) : Prop where
  step : ∀ S x, ok S → LtN n x → ok (f S x)
  neg : ∀ S x, ok S → LtN n x → f (f S x) (-x) = S
  far : ∀ S (a b : Nat), ok S → a + 1 < n → b + 1 < n → (a + 1 < b ∨ b + 1 < a) → f (f S ((a + 1 : Nat) : Int)) ((b + 1 : Nat) : Int) = f (f S ((b + 1 : Nat) : Int)) ((a + 1 : Nat) : Int)
  near : ∀ S (a b : Nat), ok S → a + 1 < n → b + 1 < n → (a + 1 = b ∨ b + 1 = a) → f (f (f S ((a + 1 : Nat) : Int)) ((b + 1 : Nat) : Int)) ((a + 1 : Nat) : Int) = f (f (f S ((b + 1 : Nat) : Int)) ((a + 1 : Nat) : Int)) ((b + 1 : Nat) : Int)
theorem ltN_pos {n a : Nat} (h : a + 1 < n) : LtN n ((a + 1 : Nat) : Int) := ⟨by omega, by omega⟩
theorem ltN_neg {n : Nat} {x : Int} (h : LtN n x) : LtN n (-x) := ⟨by have := h.1; omega, by have := h.2; omega⟩
/-- What the law lays into a word. -/
def relL (a b : Nat) : List Int :=
  if a = b + 1 ∨ b = a + 1 then [((a + 1 : Nat) : Int), ((b + 1 : Nat) : Int), ((a + 1 : Nat) : Int), -((b + 1 : Nat) : Int), -((a + 1 : Nat) : Int), -((b + 1 : Nat) : Int)]
  else if a = b then [((a + 1 : Nat) : Int), -((a + 1 : Nat) : Int)] else [((a + 1 : Nat) : Int), ((b + 1 : Nat) : Int), -((a + 1 : Nat) : Int), -((b + 1 : Nat) : Int)]
theorem relL_lt {n a b : Nat} (ha : a + 1 < n) (hb : b + 1 < n) : ∀ x ∈ relL a b, LtN n x := by
  have h1 := ltN_pos ha
  have h2 := ltN_pos hb
  have h3 := ltN_neg h1
  have h4 := ltN_neg h2
  unfold relL
  split
  · simp only [List.mem_cons, List.not_mem_nil, or_false]; rintro x (rfl | rfl | rfl | rfl | rfl | rfl) <;> assumption
  · split
    · simp only [List.mem_cons, List.not_mem_nil, or_false]; rintro x (rfl | rfl) <;> assumption
    · simp only [List.mem_cons, List.not_mem_nil, or_false]; rintro x (rfl | rfl | rfl | rfl) <;> assumption
theorem Bact.rel {σ : Type} {f : σ → Int → σ} {ok : σ → Prop} {n : Nat} (h : Bact σ f ok n) {S : σ} (hS : ok S) {a b : Nat} (ha : a + 1 < n) (hb : b + 1 < n) : (relL a b).foldl f S = S := by
  have h1 := ltN_pos ha
  have h2 := ltN_pos hb
  have sb := h.step S _ hS h2
  unfold relL
  split
  · show f (f (f (f (f (f S _) _) _) _) _) _ = S
    rw [h.near S a b hS ha hb (by omega), h.neg _ _ (h.step _ _ sb h1) h2, h.neg _ _ sb h1, h.neg _ _ hS h2]
  · split
    · show f (f S _) _ = S
      exact h.neg _ _ hS h1
    · show f (f (f (f S _) _) _) _ = S
      rw [h.far S a b hS ha hb (by omega), h.neg _ _ sb h1, h.neg _ _ hS h2]
theorem Bact.fold {σ : Type} {f : σ → Int → σ} {ok : σ → Prop} {n : Nat} (h : Bact σ f ok n) : ∀ {w : List Int} {S : σ}, ok S → (∀ x ∈ w, LtN n x) → ok (w.foldl f S)
  | [], _, hS, _ => hS
  | x :: w, S, hS, hw => Bact.fold h (w := w) (S := f S x) (h.step S x hS (hw x (.head _))) (fun y hy => hw y (.tail _ hy))
theorem Bact.ins {σ : Type} {f : σ → Int → σ} {ok : σ → Prop} {n : Nat} (h : Bact σ f ok n) {S : σ} (hS : ok S) {u : List Int} (hu : ∀ x ∈ u, LtN n x) (k : Nat) {a b : Nat} (ha : a + 1 < n) (hb : b + 1 < n) : (u.take k ++ relL a b ++ u.drop k).foldl f S = u.foldl f S := by
  rw [List.foldl_append, List.foldl_append, h.rel (h.fold hS (fun x hx => hu x (List.mem_of_mem_take hx))) ha hb, ← List.foldl_append, List.take_append_drop]
theorem bact_nf {n : Nat} (h2 : 2 ≤ n) : Bact (Int × List (List Nat)) (cst n) (CanS n) n :=
  ⟨fun _ _ h hx => h.cst hx, fun _ _ h hx => cst_neg h2 h hx, fun _ _ _ h ha hb hab => cst_far h2 h ha hb hab, fun _ _ _ h ha hb hab => cst_near h2 h ha hb hab⟩
theorem bact_act {n : Nat} : Bact (List (List Int)) stp (fun T => RedT T ∧ T.length = n) n := by
  refine ⟨fun T x h _ => ⟨h.1.stp x, by rw [stp_len]; exact h.2⟩, fun T x h hx => ?_, fun T a b h ha hb hab => stp_far (by rw [h.2]; exact ha) (by rw [h.2]; exact hb) hab, fun T a b h ha hb hab => ?_⟩
  · have h1 := hx.1
    have h2 := hx.2
    obtain ⟨i, hi⟩ : ∃ i, x.natAbs = i + 1 := ⟨x.natAbs - 1, by omega⟩
    by_cases hp : 0 < x
    · have e : x = ((i + 1 : Nat) : Int) := by omega
      rw [e]
      exact stp_pn h.1 (by rw [h.2]; omega)
    · have e : x = -((i + 1 : Nat) : Int) := by omega
      rw [e, Int.neg_neg]
      exact stp_np h.1 (by rw [h.2]; omega)
  · rcases hab with e | e
    · subst e
      exact stp_near h.1 (by rw [h.2]; exact hb)
    · subst e
      exact (stp_near h.1 (by rw [h.2]; exact ha)).symm
theorem act0_red (n : Nat) : RedT (act0 n) ∧ (act0 n).length = n := by
  refine ⟨fun j => ?_, by simp [act0]⟩
  rw [act0_at]
  split
  · intro i hi; simp at hi
  · exact redP_nil
/-- THE RELATIONS LEAVE THE NORMAL FORM, AND WHAT ACT TELLS. -/
theorem rel_nf {n : Nat} (h2 : 2 ≤ n) {u : List Int} (hu : ∀ x ∈ u, LtN n x) (k : Nat) {a b : Nat} (ha : a + 1 < n) (hb : b + 1 < n) : nfW n (u.take k ++ relL a b ++ u.drop k) = nfW n u := (bact_nf h2).ins (canS_nil n 0) hu k ha hb
theorem actT_all (n : Nat) (w : List Int) : actT n w w.length = w.foldl stp (act0 n) := by unfold actT; rw [List.take_length]
theorem rel_act {n : Nat} {u : List Int} (hu : ∀ x ∈ u, LtN n x) (k : Nat) {a b : Nat} (ha : a + 1 < n) (hb : b + 1 < n) : actT n (u.take k ++ relL a b ++ u.drop k) (u.take k ++ relL a b ++ u.drop k).length = actT n u u.length := by
  rw [actT_all, actT_all]
  exact (bact_act (n := n)).ins (act0_red n) hu k ha hb
theorem wordN_of {n : Nat} {l : List Int} (h2 : 2 ≤ n) (h6 : n ≤ 6) (hl : l.length ≤ 20) (h : ∀ x ∈ l, LtN n x) : wordN (n : Int) l = 0 := by
  unfold wordN
  rw [if_neg (by omega), if_neg, if_neg (by omega)]
  intro q
  obtain ⟨x, hx, hb⟩ := List.any_eq_true.1 q
  obtain ⟨h3, h4⟩ := h x hx
  unfold badL at hb
  rw [decide_eq_false (show ¬ x = 0 by omega), decide_eq_false (show ¬ x ≤ -(n : Int) by omega), decide_eq_false (show ¬ (n : Int) ≤ x by omega)] at hb
  cases hb
/-- Delta as the law lays it: so many rounds. -/
def hfD (n : Nat) : Nat → List Int
  | 0 => []
  | d + 1 => hfD n d ++ mapI (n - 1 - d) (fun i => (i : Int) + 1)
theorem hf3 : (nfW 3 (hfD 3 2)).1 = 1 ∧ (nfW 3 (hfD 3 2 ++ hfD 3 2 ++ [1]) = nfW 3 ([1] ++ (hfD 3 2 ++ hfD 3 2))) ∧ (nfW 3 (hfD 3 2 ++ hfD 3 2 ++ [2]) = nfW 3 ([2] ++ (hfD 3 2 ++ hfD 3 2))) := by decide +kernel
theorem hf4 : (nfW 4 (hfD 4 3)).1 = 1 ∧ (nfW 4 (hfD 4 3 ++ hfD 4 3 ++ [1]) = nfW 4 ([1] ++ (hfD 4 3 ++ hfD 4 3))) ∧ (nfW 4 (hfD 4 3 ++ hfD 4 3 ++ [2]) = nfW 4 ([2] ++ (hfD 4 3 ++ hfD 4 3))) ∧ (nfW 4 (hfD 4 3 ++ hfD 4 3 ++ [3]) = nfW 4 ([3] ++ (hfD 4 3 ++ hfD 4 3))) := by decide +kernel
theorem hf_all {n b : Nat} (h : n = 3 ∨ n = 4) (hb : b + 1 < n) : (nfW n (hfD n (n - 1))).1 = 1 ∧ nfW n (hfD n (n - 1) ++ hfD n (n - 1) ++ [((b + 1 : Nat) : Int)]) = nfW n ([((b + 1 : Nat) : Int)] ++ (hfD n (n - 1) ++ hfD n (n - 1))) := by
  rcases h with rfl | rfl
  · have : b = 0 ∨ b = 1 := by omega
    rcases this with rfl | rfl
    · exact ⟨hf3.1, hf3.2.1⟩
    · exact ⟨hf3.1, hf3.2.2⟩
  · have : b = 0 ∨ b = 1 ∨ b = 2 := by omega
    rcases this with rfl | rfl | rfl
    · exact ⟨hf4.1, hf4.2.1⟩
    · exact ⟨hf4.1, hf4.2.2.1⟩
    · exact ⟨hf4.1, hf4.2.2.2⟩
theorem hfD_lt {n : Nat} : ∀ d, d ≤ n - 1 → ∀ x ∈ hfD n d, LtN n x
  | 0, _, x, hx => by cases hx
  | d + 1, h, x, hx => by
    rcases List.mem_append.1 hx with g | g
    · exact hfD_lt d (by omega) x g
    · unfold mapI at g
      obtain ⟨i, hi, rfl⟩ := List.mem_map.1 g
      have := List.mem_range.1 hi
      exact ⟨by omega, by omega⟩
end Go.Proofs.Ythlmkoiilgjflaa
