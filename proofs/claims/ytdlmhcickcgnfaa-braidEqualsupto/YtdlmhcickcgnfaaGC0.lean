/- Texts without neighbours that are reciprocals are a group; letters act on them by the relations of braids: plain mathematics. -/
import Derived.Test.YtdlmhcickcgnfaaBR0
namespace Go.Proofs.Ytdlmhcickcgnfaa

theorem last_snoc (o : List Int) (x : Int) : (o ++ [x]).getD ((o ++ [x]).length - 1) 0 = x := by
  rw [List.length_append, List.length_singleton, Nat.add_sub_cancel, getD_snoc, if_neg (by omega), if_pos rfl]
theorem snoc_of {o : List Int} (h : 0 < o.length) : o = o.take (o.length - 1) ++ [o.getD (o.length - 1) 0] := by
  conv => lhs; rw [← List.take_append_drop (o.length - 1) o]
  congr 1
  rw [List.drop_eq_getElem_cons (by omega), List.getD_eq_getElem?_getD, List.getElem?_eq_getElem (by omega), List.drop_of_length_le (by omega)]
  rfl
theorem push_snoc (o : List Int) (y : Int) : push (o ++ [y]) (-y) = o := by
  unfold push
  rw [if_pos ⟨by simp, by rw [last_snoc, Int.neg_neg]⟩]
  simp
theorem push_push {o : List Int} (h : RedP o) (y : Int) : push (push o y) (-y) = o := by
  by_cases hc : 0 < o.length ∧ o.getD (o.length - 1) 0 = -y
  · have e1 : push o y = o.take (o.length - 1) := by unfold push; rw [if_pos hc]
    rw [e1]
    have e2 := snoc_of hc.1
    rw [hc.2] at e2
    unfold push
    rw [if_neg]
    · exact e2.symm
    · rintro ⟨h1, h2⟩
      rw [List.length_take] at h1 h2
      rw [getD_takeI _ _ _ (by omega), show min (o.length - 1) o.length - 1 = o.length - 2 by omega, Int.neg_neg] at h2
      have h3 := h (o.length - 2) (by omega)
      rw [show o.length - 2 + 1 = o.length - 1 by omega, hc.2, Int.neg_neg] at h3
      exact h3 h2
  · have e1 : push o y = o ++ [y] := by unfold push; rw [if_neg hc]
    rw [e1, push_snoc]
theorem gl_snoc (o b : List Int) (x : Int) : gl o (b ++ [x]) = push (gl o b) x := by unfold gl; rw [List.foldl_append]; rfl
theorem gl_app (o b c : List Int) : gl o (b ++ c) = gl (gl o b) c := by unfold gl; rw [List.foldl_append]
theorem gl_push {o b : List Int} (ho : RedP o) (x : Int) : gl o (push b x) = push (gl o b) x := by
  by_cases hc : 0 < b.length ∧ b.getD (b.length - 1) 0 = -x
  · have e1 : push b x = b.take (b.length - 1) := by unfold push; rw [if_pos hc]
    have e2 := snoc_of hc.1
    rw [hc.2] at e2
    rw [e1]
    conv => rhs; rw [e2, gl_snoc]
    have := push_push (gl_red ho (b.take (b.length - 1))) (-x)
    rw [Int.neg_neg] at this
    exact this.symm
  · have e1 : push b x = b ++ [x] := by unfold push; rw [if_neg hc]
    rw [e1, gl_snoc]
/-- Behind each other, whichever is done first. -/
theorem gl_assoc {o : List Int} (ho : RedP o) (b : List Int) : ∀ (c : List Int), gl o (gl b c) = gl (gl o b) c := by
  intro c
  have key : ∀ k, k ≤ c.length → gl o (gl b (c.take k)) = gl (gl o b) (c.take k) := by
    intro k
    induction k with
    | zero => intro _; rfl
    | succ k ih =>
      intro hk
      rw [gl_take _ _ _ (by omega), gl_take _ _ _ (by omega), gl_push ho, ih (by omega)]
  have := key c.length (Nat.le_refl _)
  rwa [List.take_length] at this
theorem rc_is (a : List Int) : rc a = (a.map fun x => -x).reverse := by
  apply List.ext_getElem?
  intro j
  by_cases hj : j < a.length
  · unfold rc
    rw [mapI_get _ _ _ hj, List.getElem?_reverse (by simpa using hj), List.length_map, List.getElem?_map, List.getElem?_eq_getElem (by omega), List.getD_eq_getElem?_getD, List.getElem?_eq_getElem (by omega)]
    rfl
  · rw [List.getElem?_eq_none (by rw [rc_len]; omega), List.getElem?_eq_none (by simp; omega)]
theorem rc_rc (a : List Int) : rc (rc a) = a := by
  rw [rc_is, rc_is, List.map_reverse, List.reverse_reverse, List.map_map]
  conv => rhs; rw [← List.map_id a]
  exact List.map_congr_left fun x _ => Int.neg_neg x
theorem rc_cons (x : Int) (a : List Int) : rc (x :: a) = rc a ++ [-x] := by rw [rc_is, rc_is]; simp
theorem gl_rc : ∀ (a : List Int) {o : List Int}, RedP o → gl (gl o a) (rc a) = o
  | [], o, _ => rfl
  | x :: a, o, ho => by
    rw [rc_cons, gl_snoc]
    show push (gl (gl (push o x) a) (rc a)) (-x) = o
    rw [gl_rc a (push_red ho x), push_push ho]
theorem gl_rc' (a : List Int) {o : List Int} (ho : RedP o) : gl (gl o (rc a)) a = o := by
  have := gl_rc (rc a) ho
  rwa [rc_rc] at this
theorem redP_nil : RedP [] := fun i hi => by simp at hi
theorem rc_gl {a b : List Int} (ha : RedP a) (hb : RedP b) : rc (gl a b) = gl (rc b) (rc a) := by
  have hx := gl_red ha b
  have hrx := rc_red hx
  have h1 : gl (gl a b) (gl (rc b) (rc a)) = [] := by
    rw [gl_assoc hx, gl_rc b ha]
    have := gl_rc a redP_nil
    rwa [gl_own ha] at this
  have h2 : gl (rc (gl a b)) (gl (gl a b) (gl (rc b) (rc a))) = gl (rc b) (rc a) := by
    rw [gl_assoc hrx]
    have h3 : gl (rc (gl a b)) (gl a b) = [] := by
      have := gl_rc' (gl a b) redP_nil
      rwa [gl_own hrx] at this
    rw [h3, gl_own (gl_red (rc_red hb) _)]
  rw [h1] at h2
  exact h2

theorem listL_ext {S T : List (List Int)} (hl : S.length = T.length) (h : ∀ j, j < S.length → S.getD j [] = T.getD j []) : S = T := by
  apply List.ext_getElem hl
  intro i h1 h2
  have := h i h1
  rwa [List.getD_eq_getElem?_getD, List.getD_eq_getElem?_getD, List.getElem?_eq_getElem h1, List.getElem?_eq_getElem h2] at this
theorem stp_len (T : List (List Int)) (x : Int) : (stp T x).length = T.length := by unfold stp; split <;> simp
theorem stp_pos {T : List (List Int)} {i : Nat} (hi : i + 1 < T.length) (j : Nat) : (stp T ((i + 1 : Nat) : Int)).getD j [] = if j = i + 1 then T.getD i [] else if j = i then gl (gl (T.getD i []) (T.getD (i + 1) [])) (rc (T.getD i [])) else T.getD j [] := by
  unfold stp
  rw [if_pos (by omega), Int.natAbs_natCast, Nat.add_sub_cancel, getD_setL, getD_setL, List.length_set]
  by_cases e1 : j = i + 1
  · rw [if_pos ⟨e1, hi⟩, if_pos e1]
  · rw [if_neg (fun q => e1 q.1), if_neg e1]
    by_cases e2 : j = i
    · rw [if_pos ⟨e2, by omega⟩, if_pos e2]
    · rw [if_neg (fun q => e2 q.1), if_neg e2]
theorem stp_neg {T : List (List Int)} {i : Nat} (hi : i + 1 < T.length) (j : Nat) : (stp T (-((i + 1 : Nat) : Int))).getD j [] = if j = i + 1 then gl (gl (rc (T.getD (i + 1) [])) (T.getD i [])) (T.getD (i + 1) []) else if j = i then T.getD (i + 1) [] else T.getD j [] := by
  unfold stp
  rw [if_neg (by omega), Int.natAbs_neg, Int.natAbs_natCast, Nat.add_sub_cancel, getD_setL, getD_setL, List.length_set]
  by_cases e1 : j = i + 1
  · rw [if_pos ⟨e1, hi⟩, if_pos e1]
  · rw [if_neg (fun q => e1 q.1), if_neg e1]
    by_cases e2 : j = i
    · rw [if_pos ⟨e2, by omega⟩, if_pos e2]
    · rw [if_neg (fun q => e2 q.1), if_neg e2]
/-- All texts are without neighbours that are reciprocals. -/
def RedT (T : List (List Int)) : Prop := ∀ j, RedP (T.getD j [])
theorem RedT.stp {T : List (List Int)} (h : RedT T) (x : Int) : RedT (stp T x) := by
  intro j
  unfold Go.Proofs.Ytdlmhcickcgnfaa.stp
  split
  · rw [getD_setL, getD_setL]
    split
    · exact h _
    · split
      · exact gl_red (gl_red (h _) _) _
      · exact h _
  · rw [getD_setL, getD_setL]
    split
    · exact gl_red (gl_red (rc_red (h _)) _) _
    · split
      · exact h _
      · exact h _
theorem stp_p0 {T : List (List Int)} {i : Nat} (hi : i + 1 < T.length) : (stp T ((i + 1 : Nat) : Int)).getD i [] = gl (gl (T.getD i []) (T.getD (i + 1) [])) (rc (T.getD i [])) := by rw [stp_pos hi, if_neg (by omega), if_pos rfl]
theorem stp_p1 {T : List (List Int)} {i : Nat} (hi : i + 1 < T.length) : (stp T ((i + 1 : Nat) : Int)).getD (i + 1) [] = T.getD i [] := by rw [stp_pos hi, if_pos rfl]
theorem stp_pj {T : List (List Int)} {i j : Nat} (hi : i + 1 < T.length) (h0 : j ≠ i) (h1 : j ≠ i + 1) : (stp T ((i + 1 : Nat) : Int)).getD j [] = T.getD j [] := by rw [stp_pos hi, if_neg h1, if_neg h0]
theorem stp_n0 {T : List (List Int)} {i : Nat} (hi : i + 1 < T.length) : (stp T (-((i + 1 : Nat) : Int))).getD i [] = T.getD (i + 1) [] := by rw [stp_neg hi, if_neg (by omega), if_pos rfl]
theorem stp_n1 {T : List (List Int)} {i : Nat} (hi : i + 1 < T.length) : (stp T (-((i + 1 : Nat) : Int))).getD (i + 1) [] = gl (gl (rc (T.getD (i + 1) [])) (T.getD i [])) (T.getD (i + 1) []) := by rw [stp_neg hi, if_pos rfl]
theorem stp_nj {T : List (List Int)} {i j : Nat} (hi : i + 1 < T.length) (h0 : j ≠ i) (h1 : j ≠ i + 1) : (stp T (-((i + 1 : Nat) : Int))).getD j [] = T.getD j [] := by rw [stp_neg hi, if_neg h1, if_neg h0]
theorem rc_self {a : List Int} (h : RedP a) : gl (rc a) a = [] := by
  have := gl_rc' a redP_nil
  rwa [gl_own (rc_red h)] at this
theorem stp_pn {T : List (List Int)} (h : RedT T) {i : Nat} (hi : i + 1 < T.length) : stp (stp T ((i + 1 : Nat) : Int)) (-((i + 1 : Nat) : Int)) = T := by
  refine listL_ext (by rw [stp_len, stp_len]) fun j _ => ?_
  have hi2 : i + 1 < (stp T ((i + 1 : Nat) : Int)).length := by rw [stp_len]; exact hi
  have ha := h i
  have hb := h (i + 1)
  by_cases e0 : j = i
  · rw [e0, stp_n0 hi2, stp_p1 hi]
  · by_cases e1 : j = i + 1
    · rw [e1, stp_n1 hi2, stp_p0 hi, stp_p1 hi, gl_assoc (rc_red ha), gl_rc' _ (gl_red (rc_red ha) _), gl_assoc (rc_red ha), rc_self ha, gl_own hb]
    · rw [stp_nj hi2 e0 e1, stp_pj hi e0 e1]
theorem stp_np {T : List (List Int)} (h : RedT T) {i : Nat} (hi : i + 1 < T.length) : stp (stp T (-((i + 1 : Nat) : Int))) ((i + 1 : Nat) : Int) = T := by
  refine listL_ext (by rw [stp_len, stp_len]) fun j _ => ?_
  have hi2 : i + 1 < (stp T (-((i + 1 : Nat) : Int))).length := by rw [stp_len]; exact hi
  have ha := h i
  have hb := h (i + 1)
  by_cases e0 : j = i
  · rw [e0, stp_p0 hi2, stp_n0 hi, stp_n1 hi, ← gl_assoc hb, gl_rc _ (gl_red (rc_red hb) _), gl_assoc hb]
    have e2 : gl (T.getD (i + 1) []) (rc (T.getD (i + 1) [])) = [] := by
      have := gl_rc (T.getD (i + 1) []) redP_nil
      rwa [gl_own hb] at this
    rw [e2, gl_own ha]
  · by_cases e1 : j = i + 1
    · rw [e1, stp_p1 hi2, stp_n0 hi]
    · rw [stp_pj hi2 e0 e1, stp_nj hi e0 e1]
theorem stp_far {T : List (List Int)} {a b : Nat} (ha : a + 1 < T.length) (hb : b + 1 < T.length) (hab : a + 1 < b ∨ b + 1 < a) : stp (stp T ((a + 1 : Nat) : Int)) ((b + 1 : Nat) : Int) = stp (stp T ((b + 1 : Nat) : Int)) ((a + 1 : Nat) : Int) := by
  refine listL_ext (by rw [stp_len, stp_len, stp_len, stp_len]) fun j _ => ?_
  have ha2 : a + 1 < (stp T ((b + 1 : Nat) : Int)).length := by rw [stp_len]; exact ha
  have hb2 : b + 1 < (stp T ((a + 1 : Nat) : Int)).length := by rw [stp_len]; exact hb
  by_cases e0 : j = a
  · rw [e0, stp_pj hb2 (by omega) (by omega), stp_p0 ha, stp_p0 ha2, stp_pj hb (by omega) (by omega), stp_pj hb (by omega) (by omega)]
  · by_cases e1 : j = a + 1
    · rw [e1, stp_pj hb2 (by omega) (by omega), stp_p1 ha, stp_p1 ha2, stp_pj hb (by omega) (by omega)]
    · by_cases e2 : j = b
      · rw [e2, stp_p0 hb2, stp_pj ha (by omega) (by omega), stp_pj ha (by omega) (by omega), stp_pj ha2 (by omega) (by omega), stp_p0 hb]
      · by_cases e3 : j = b + 1
        · rw [e3, stp_p1 hb2, stp_pj ha (by omega) (by omega), stp_pj ha2 (by omega) (by omega), stp_p1 hb]
        · rw [stp_pj hb2 e2 e3, stp_pj ha e0 e1, stp_pj ha2 e0 e1, stp_pj hb e2 e3]
theorem stp_near {T : List (List Int)} (h : RedT T) {a : Nat} (hb : a + 1 + 1 < T.length) : stp (stp (stp T ((a + 1 : Nat) : Int)) ((a + 1 + 1 : Nat) : Int)) ((a + 1 : Nat) : Int) = stp (stp (stp T ((a + 1 + 1 : Nat) : Int)) ((a + 1 : Nat) : Int)) ((a + 1 + 1 : Nat) : Int) := by
  have ha : a + 1 < T.length := by omega
  refine listL_ext (by rw [stp_len, stp_len, stp_len, stp_len, stp_len, stp_len]) fun j _ => ?_
  have p1 : a + 1 + 1 < (stp T ((a + 1 : Nat) : Int)).length := by rw [stp_len]; exact hb
  have p2 : a + 1 < (stp (stp T ((a + 1 : Nat) : Int)) ((a + 1 + 1 : Nat) : Int)).length := by rw [stp_len, stp_len]; exact ha
  have q1 : a + 1 < (stp T ((a + 1 + 1 : Nat) : Int)).length := by rw [stp_len]; exact ha
  have q2 : a + 1 + 1 < (stp (stp T ((a + 1 + 1 : Nat) : Int)) ((a + 1 : Nat) : Int)).length := by rw [stp_len, stp_len]; exact hb
  have r0 := h a
  have r1 := h (a + 1)
  have r2 := h (a + 1 + 1)
  by_cases e0 : j = a
  · rw [e0, stp_p0 p2, stp_pj p1 (by omega) (by omega), stp_p0 p1, stp_p0 ha, stp_p1 ha, stp_pj ha (by omega) (by omega), stp_pj q2 (by omega) (by omega), stp_p0 q1, stp_p0 hb, stp_pj hb (by omega) (by omega)]
    generalize T.getD a [] = x at r0 ⊢
    generalize T.getD (a + 1) [] = y at r1 ⊢
    generalize T.getD (a + 1 + 1) [] = z at r2 ⊢
    have rx := rc_red r0
    have ry := rc_red r1
    have rxy := gl_red r0 y
    rw [rc_gl rxy rx, rc_gl r0 r1, rc_rc, gl_assoc (gl_red rxy _), gl_assoc (gl_red rxy _), gl_rc' x rxy, gl_assoc (gl_red (gl_red rxy z) _), gl_rc' x (gl_red rxy z), gl_assoc (gl_red rxy z), gl_assoc r0, gl_assoc r0]
  · by_cases e1 : j = a + 1
    · rw [e1, stp_p1 p2, stp_pj p1 (by omega) (by omega), stp_p0 ha, stp_p0 q2, stp_p1 q1, stp_pj q1 (by omega) (by omega), stp_pj hb (by omega) (by omega), stp_p1 hb]
    · by_cases e2 : j = a + 1 + 1
      · rw [e2, stp_pj p2 (by omega) (by omega), stp_p1 p1, stp_p1 ha, stp_p1 q2, stp_p1 q1, stp_pj hb (by omega) (by omega)]
      · rw [stp_pj p2 e0 e1, stp_pj p1 e1 e2, stp_pj ha e0 e1, stp_pj q2 e1 e2, stp_pj q1 e0 e1, stp_pj hb e1 e2]
end Go.Proofs.Ytdlmhcickcgnfaa
