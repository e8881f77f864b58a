/- What the program's row tells: the normal form: plain mathematics. -/
import Derived.Test.YthlmkoiilgjflaaGB5
namespace Go.Proofs.Ythlmkoiilgjflaa

theorem rawS_len (n : Nat) (p : Int) (X : List (List Nat)) (x : Int) : (rawS n p X x).2.length = X.length + 1 := by
  unfold rawS
  split <;> simp [pas_len]
theorem rawS_p (n : Nat) (p : Int) (X : List (List Nat)) (x : Int) : p - 1 ≤ (rawS n p X x).1 ∧ (rawS n p X x).1 ≤ p := by
  unfold rawS
  split
  · exact ⟨by show p - 1 ≤ p; omega, Int.le_refl _⟩
  · exact ⟨Int.le_refl _, by show p - 1 ≤ p; omega⟩
/-- The row after so many letters. -/
def rawF (n : Nat) (w : List Int) (k : Nat) : Int × List (List Nat) := (w.take k).foldl (fun S x => rawS n S.1 S.2 x) (0, [])
theorem rawF_next (n : Nat) (w : List Int) (k : Nat) (h : k < w.length) : rawF n w (k + 1) = rawS n (rawF n w k).1 (rawF n w k).2 (w.getD k 0) := by
  unfold rawF
  rw [List.take_succ_eq_append_getElem h, List.foldl_append, List.getD_eq_getElem?_getD, List.getElem?_eq_getElem h]
  rfl
theorem rawF_bound (n : Nat) (w : List Int) (k : Nat) (h : k ≤ w.length) : (rawF n w k).2.length = k ∧ -(k : Int) ≤ (rawF n w k).1 ∧ (rawF n w k).1 ≤ 0 := by
  induction k with
  | zero => exact ⟨rfl, by show -((0 : Nat) : Int) ≤ 0; omega, Int.le_refl _⟩
  | succ k ih =>
    obtain ⟨h1, h2, h3⟩ := ih (by omega)
    rw [rawF_next n w k (by omega), rawS_len]
    have := rawS_p n (rawF n w k).1 (rawF n w k).2 (w.getD k 0)
    omega
/-- A settled row tells a normal form. -/
structure RawOk (n : Nat) (S T : Int × List (List Nat)) : Prop where
  all : AllP n S.2
  set : SetL n S.2.reverse
  is : (S.1 + ((nfL n S.2.reverse).1 : Nat), (nfL n S.2.reverse).2) = T
theorem allP_rev {n : Nat} {F : List (List Nat)} (h : AllP n F) : AllP n F.reverse := fun z hz => h z (List.mem_reverse.1 hz)
theorem RawOk.step {n : Nat} {S T : Int × List (List Nat)} (h : RawOk n S T) {x : Int} (hx : LtN n x) : RawOk n (rawS n S.1 S.2 x) (cst n T x) := by
  obtain ⟨h1, h2, h3⟩ := h
  have hx1 := hx.1
  have hx2 := hx.2
  have hr := allP_rev h1
  unfold rawS cst
  split
  · have hg := isP_psg (n := n) (i := x.natAbs - 1) (by omega)
    refine ⟨allP_rev (pas_all hr hg), by rw [List.reverse_reverse]; exact pas_set hr h2 hg, ?_⟩
    show (S.1 + ((nfL n (pas n S.2.reverse (psg n (x.natAbs - 1))).reverse.reverse).1 : Nat), (nfL n (pas n S.2.reverse (psg n (x.natAbs - 1))).reverse.reverse).2) = _
    rw [List.reverse_reverse, nf_pas hr h2 hg, ← h3]
    refine Prod.ext ?_ rfl
    show S.1 + (((nfL n S.2.reverse).1 + (nfL n (pas n (nfL n S.2.reverse).2 (psg n (x.natAbs - 1)))).1 : Nat) : Int) = S.1 + ((nfL n S.2.reverse).1 : Nat) + ((nfL n (pas n (nfL n S.2.reverse).2 (psg n (x.natAbs - 1)))).1 : Nat)
    omega
  · have hg := isP_pdg (n := n) (i := x.natAbs - 1) (by omega)
    have e : (S.2.map (pta n)).reverse = S.2.reverse.map (pta n) := by simp
    have ha : AllP n (S.2.reverse.map (pta n)) := fun z hz => by
      obtain ⟨y, hy, rfl⟩ := List.mem_map.1 hz
      exact isP_pta (hr y hy)
    have hs := set_map hr h2
    refine ⟨?_, ?_, ?_⟩
    · show AllP n (pas n (S.2.map (pta n)).reverse _).reverse
      rw [e]
      exact allP_rev (pas_all ha hg)
    · show SetL n (pas n (S.2.map (pta n)).reverse _).reverse.reverse
      rw [e, List.reverse_reverse]
      exact pas_set ha hs hg
    · show (S.1 - 1 + ((nfL n (pas n (S.2.map (pta n)).reverse (pdg n (x.natAbs - 1))).reverse.reverse).1 : Nat), (nfL n (pas n (S.2.map (pta n)).reverse (pdg n (x.natAbs - 1))).reverse.reverse).2) = _
      rw [e, List.reverse_reverse, nf_pas ha hs hg, nf_map hr, ← h3]
      refine Prod.ext ?_ rfl
      show S.1 - 1 + (((nfL n S.2.reverse).1 + (nfL n (pas n ((nfL n S.2.reverse).2.map (pta n)) (pdg n (x.natAbs - 1)))).1 : Nat) : Int) = S.1 + ((nfL n S.2.reverse).1 : Nat) - 1 + ((nfL n (pas n ((nfL n S.2.reverse).2.map (pta n)) (pdg n (x.natAbs - 1)))).1 : Nat)
      omega
theorem rawF_ok (n : Nat) (w : List Int) (hw : ∀ j, j < w.length → LtN n (w.getD j 0)) (k : Nat) (h : k ≤ w.length) : RawOk n (rawF n w k) (nfW n (w.take k)) := by
  induction k with
  | zero => exact ⟨fun z hz => (nomatch hz), trivial, rfl⟩
  | succ k ih =>
    have h1 := (ih (by omega)).step (hw k (by omega))
    rw [rawF_next n w k (by omega)]
    have e : nfW n (w.take (k + 1)) = cst n (nfW n (w.take k)) (w.getD k 0) := by
      unfold nfW
      rw [List.take_succ_eq_append_getElem (by omega), List.foldl_append, List.getD_eq_getElem?_getD, List.getElem?_eq_getElem (by omega)]
      rfl
    rw [e]
    exact h1
/-- What trim keeps of the first k. -/
def tr1 (n : Nat) (S : Nat × List (List Nat)) (f : List Nat) : Nat × List (List Nat) := if f = pdl n then (S.1 + 1, S.2) else if f = pid n then S else (S.1, S.2 ++ [f])
def trF (n : Nat) (X : List (List Nat)) (k : Nat) : Nat × List (List Nat) := (X.take k).foldl (tr1 n) (0, [])
theorem trF_next (n : Nat) (X : List (List Nat)) (k : Nat) (h : k < X.length) : trF n X (k + 1) = tr1 n (trF n X k) (X.getD k []) := by
  unfold trF
  rw [List.take_succ_eq_append_getElem h, List.foldl_append, List.getD_eq_getElem?_getD, List.getElem?_eq_getElem h]
  rfl
theorem trF_nf (n : Nat) : ∀ F : List (List Nat), F.reverse.foldl (tr1 n) (0, []) = ((nfL n F).1, (nfL n F).2.reverse)
  | [] => rfl
  | f :: F => by
    rw [List.reverse_cons, List.foldl_append, trF_nf n F]
    show tr1 n ((nfL n F).1, (nfL n F).2.reverse) f = _
    have e1 : f = pdl n → nfL n (f :: F) = ((nfL n F).1 + 1, (nfL n F).2) := fun h => by
      conv => lhs; unfold nfL
      rw [if_pos h]
    have e2 : ¬ f = pdl n → f = pid n → nfL n (f :: F) = nfL n F := fun h h2 => by
      conv => lhs; unfold nfL
      rw [if_neg h, if_pos h2]
    unfold tr1
    by_cases h1 : f = pdl n
    · rw [if_pos h1, e1 h1]
    · by_cases h2 : f = pid n
      · rw [if_neg h1, if_pos h2, e2 h1 h2]
      · rw [if_neg h1, if_neg h2, nf_new h1 h2]
        simp
theorem trF_all (n : Nat) (X : List (List Nat)) : trF n X X.length = ((nfL n X.reverse).1, (nfL n X.reverse).2.reverse) := by
  unfold trF
  rw [List.take_length, ← trF_nf, List.reverse_reverse]
theorem trF_le (n : Nat) (X : List (List Nat)) (k : Nat) (h : k ≤ X.length) : (trF n X k).1 + (trF n X k).2.length ≤ k := by
  induction k with
  | zero => exact Nat.le_refl _
  | succ k ih =>
    have := ih (by omega)
    rw [trF_next n X k (by omega)]
    unfold tr1
    split
    · show (trF n X k).1 + 1 + (trF n X k).2.length ≤ k + 1; omega
    · split
      · omega
      · simp; omega
end Go.Proofs.Ythlmkoiilgjflaa
