/- Several texts of the proof, one behind the other. -/
import Derived.Test.YthlmkoiilgjflaaBR0
import Derived.Test.YthlmkoiilgjflaaBR2P
/- Texts without neighbours that are reciprocals are a group; letters act on them by the relations of braids: plain mathematics. -/
namespace Go.Proofs.Ythlmkoiilgjflaa

theorem last_snoc (o : List Int) (x : Int) : (o ++ [x]).getD ((o ++ [x]).length - 1) 0 = x := by
  rw [List.length_append, List.length_singleton, Nat.add_sub_cancel, getD_snoc, if_neg (by omega), if_pos rfl]
theorem snoc_of {o : List Int} (h : 0 < o.length) : o = o.take (o.length - 1) ++ [o.getD (o.length - 1) 0] := by
  conv => lhs; rw [← List.take_append_drop (o.length - 1) o]
  congr 1
  rw [List.drop_eq_getElem_cons (by omega), List.getD_eq_getElem?_getD, List.getElem?_eq_getElem (by omega), List.drop_of_length_le (by omega)]
  rfl
theorem push_snoc (o : List Int) (y : Int) : push (o ++ [y]) (-y) = o := by
  unfold push
  rw [if_pos ⟨by simp, by rw [last_snoc, Int.neg_neg]⟩]
  simp
theorem push_push {o : List Int} (h : RedP o) (y : Int) : push (push o y) (-y) = o := by
  by_cases hc : 0 < o.length ∧ o.getD (o.length - 1) 0 = -y
  · have e1 : push o y = o.take (o.length - 1) := by unfold push; rw [if_pos hc]
    rw [e1]
    have e2 := snoc_of hc.1
    rw [hc.2] at e2
    unfold push
    rw [if_neg]
    · exact e2.symm
    · rintro ⟨h1, h2⟩
      rw [List.length_take] at h1 h2
      rw [getD_takeI _ _ _ (by omega), show min (o.length - 1) o.length - 1 = o.length - 2 by omega, Int.neg_neg] at h2
      have h3 := h (o.length - 2) (by omega)
      rw [show o.length - 2 + 1 = o.length - 1 by omega, hc.2, Int.neg_neg] at h3
      exact h3 h2
  · have e1 : push o y = o ++ [y] := by unfold push; rw [if_neg hc]
    rw [e1, push_snoc]
theorem gl_snoc (o b : List Int) (x : Int) : gl o (b ++ [x]) = push (gl o b) x := by unfold gl; rw [List.foldl_append]; rfl
theorem gl_app (o b c : List Int) : gl o (b ++ c) = gl (gl o b) c := by unfold gl; rw [List.foldl_append]
theorem gl_push {o b : List Int} (ho : RedP o) (x : Int) : gl o (push b x) = push (gl o b) x := by
  by_cases hc : 0 < b.length ∧ b.getD (b.length - 1) 0 = -x
  · have e1 : push b x = b.take (b.length - 1) := by unfold push; rw [if_pos hc]
    have e2 := snoc_of hc.1
    rw [hc.2] at e2
    rw [e1]
    conv => rhs; rw [e2, gl_snoc]
    have := push_push (gl_red ho (b.take (b.length - 1))) (-x)
    rw [Int.neg_neg] at this
    exact this.symm
  · have e1 : push b x = b ++ [x] := by unfold push; rw [if_neg hc]
    rw [e1, gl_snoc]
/-- Behind each other, whichever is done first. -/
theorem gl_assoc {o : List Int} (ho : RedP o) (b : List Int) : ∀ (c : List Int), gl o (gl b c) = gl (gl o b) c := by
  intro c
  have key : ∀ k, k ≤ c.length → gl o (gl b (c.take k)) = gl (gl o b) (c.take k) := by
    intro k
    induction k with
    | zero => intro _; rfl
    | succ k ih =>
      intro hk
      rw [gl_take _ _ _ (by omega), gl_take _ _ _ (by omega), gl_push ho, ih (by omega)]
  have := key c.length (Nat.le_refl _)
  rwa [List.take_length] at this
theorem rc_is (a : List Int) : rc a = (a.map fun x => -x).reverse := by
  apply List.ext_getElem?
  intro j
  by_cases hj : j < a.length
  · unfold rc
    rw [mapI_get _ _ _ hj, List.getElem?_reverse (by simpa using hj), List.length_map, List.getElem?_map, List.getElem?_eq_getElem (by omega), List.getD_eq_getElem?_getD, List.getElem?_eq_getElem (by omega)]
    rfl
  · rw [List.getElem?_eq_none (by rw [rc_len]; omega), List.getElem?_eq_none (by simp; omega)]
theorem rc_rc (a : List Int) : rc (rc a) = a := by
  rw [rc_is, rc_is, List.map_reverse, List.reverse_reverse, List.map_map]
  conv => rhs; rw [← List.map_id a]
  exact List.map_congr_left fun x _ => Int.neg_neg x
theorem rc_cons (x : Int) (a : List Int) : rc (x :: a) = rc a ++ [-x] := by rw [rc_is, rc_is]; simp
theorem gl_rc : ∀ (a : List Int) {o : List Int}, RedP o → gl (gl o a) (rc a) = o
  | [], o, _ => rfl
  | x :: a, o, ho => by
    rw [rc_cons, gl_snoc]
    show push (gl (gl (push o x) a) (rc a)) (-x) = o
    rw [gl_rc a (push_red ho x), push_push ho]
theorem gl_rc' (a : List Int) {o : List Int} (ho : RedP o) : gl (gl o (rc a)) a = o := by
  have := gl_rc (rc a) ho
  rwa [rc_rc] at this
theorem redP_nil : RedP [] := fun i hi => by simp at hi
theorem rc_gl {a b : List Int} (ha : RedP a) (hb : RedP b) : rc (gl a b) = gl (rc b) (rc a) := by
  have hx := gl_red ha b
  have hrx := rc_red hx
  have h1 : gl (gl a b) (gl (rc b) (rc a)) = [] := by
    rw [gl_assoc hx, gl_rc b ha]
    have := gl_rc a redP_nil
    rwa [gl_own ha] at this
  have h2 : gl (rc (gl a b)) (gl (gl a b) (gl (rc b) (rc a))) = gl (rc b) (rc a) := by
    rw [gl_assoc hrx]
    have h3 : gl (rc (gl a b)) (gl a b) = [] := by
      have := gl_rc' (gl a b) redP_nil
      rwa [gl_own hrx] at this
    rw [h3, gl_own (gl_red (rc_red hb) _)]
  rw [h1] at h2
  exact h2

theorem listL_ext {S T : List (List Int)} (hl : S.length = T.length) (h : ∀ j, j < S.length → S.getD j [] = T.getD j []) : S = T := by
  apply List.ext_getElem hl
  intro i h1 h2
  have := h i h1
  rwa [List.getD_eq_getElem?_getD, List.getD_eq_getElem?_getD, List.getElem?_eq_getElem h1, List.getElem?_eq_getElem h2] at this
theorem stp_len (T : List (List Int)) (x : Int) : (stp T x).length = T.length := by unfold stp; split <;> simp
theorem stp_pos {T : List (List Int)} {i : Nat} (hi : i + 1 < T.length) (j : Nat) : (stp T ((i + 1 : Nat) : Int)).getD j [] = if j = i + 1 then T.getD i [] else if j = i then gl (gl (T.getD i []) (T.getD (i + 1) [])) (rc (T.getD i [])) else T.getD j [] := by
  unfold stp
  rw [if_pos (by omega), Int.natAbs_natCast, Nat.add_sub_cancel, getD_setL, getD_setL, List.length_set]
  by_cases e1 : j = i + 1
  · rw [if_pos ⟨e1, hi⟩, if_pos e1]
  · rw [if_neg (fun q => e1 q.1), if_neg e1]
    by_cases e2 : j = i
    · rw [if_pos ⟨e2, by omega⟩, if_pos e2]
    · rw [if_neg (fun q => e2 q.1), if_neg e2]
theorem stp_neg {T : List (List Int)} {i : Nat} (hi : i + 1 < T.length) (j : Nat) : (stp T (-((i + 1 : Nat) : Int))).getD j [] = if j = i + 1 then gl (gl (rc (T.getD (i + 1) [])) (T.getD i [])) (T.getD (i + 1) []) else if j = i then T.getD (i + 1) [] else T.getD j [] := by
  unfold stp
  rw [if_neg (by omega), Int.natAbs_neg, Int.natAbs_natCast, Nat.add_sub_cancel, getD_setL, getD_setL, List.length_set]
  by_cases e1 : j = i + 1
  · rw [if_pos ⟨e1, hi⟩, if_pos e1]
  · rw [if_neg (fun q => e1 q.1), if_neg e1]
    by_cases e2 : j = i
    · rw [if_pos ⟨e2, by omega⟩, if_pos e2]
    · rw [if_neg (fun q => e2 q.1), if_neg e2]
/-- All texts are without neighbours that are reciprocals. -/
def RedT (T : List (List Int)) : Prop := ∀ j, RedP (T.getD j [])
theorem RedT.stp {T : List (List Int)} (h : RedT T) (x : Int) : RedT (stp T x) := by
  intro j
  unfold Go.Proofs.Ythlmkoiilgjflaa.stp
  split
  · rw [getD_setL, getD_setL]
    split
    · exact h _
    · split
      · exact gl_red (gl_red (h _) _) _
      · exact h _
  · rw [getD_setL, getD_setL]
    split
    · exact gl_red (gl_red (rc_red (h _)) _) _
    · split
      · exact h _
      · exact h _
theorem stp_p0 {T : List (List Int)} {i : Nat} (hi : i + 1 < T.length) : (stp T ((i + 1 : Nat) : Int)).getD i [] = gl (gl (T.getD i []) (T.getD (i + 1) [])) (rc (T.getD i [])) := by rw [stp_pos hi, if_neg (by omega), if_pos rfl]
theorem stp_p1 {T : List (List Int)} {i : Nat} (hi : i + 1 < T.length) : (stp T ((i + 1 : Nat) : Int)).getD (i + 1) [] = T.getD i [] := by rw [stp_pos hi, if_pos rfl]
theorem stp_pj {T : List (List Int)} {i j : Nat} (hi : i + 1 < T.length) (h0 : j ≠ i) (h1 : j ≠ i + 1) : (stp T ((i + 1 : Nat) : Int)).getD j [] = T.getD j [] := by rw [stp_pos hi, if_neg h1, if_neg h0]
theorem stp_n0 {T : List (List Int)} {i : Nat} (hi : i + 1 < T.length) : (stp T (-((i + 1 : Nat) : Int))).getD i [] = T.getD (i + 1) [] := by rw [stp_neg hi, if_neg (by omega), if_pos rfl]
theorem stp_n1 {T : List (List Int)} {i : Nat} (hi : i + 1 < T.length) : (stp T (-((i + 1 : Nat) : Int))).getD (i + 1) [] = gl (gl (rc (T.getD (i + 1) [])) (T.getD i [])) (T.getD (i + 1) []) := by rw [stp_neg hi, if_pos rfl]
theorem stp_nj {T : List (List Int)} {i j : Nat} (hi : i + 1 < T.length) (h0 : j ≠ i) (h1 : j ≠ i + 1) : (stp T (-((i + 1 : Nat) : Int))).getD j [] = T.getD j [] := by rw [stp_neg hi, if_neg h1, if_neg h0]
theorem rc_self {a : List Int} (h : RedP a) : gl (rc a) a = [] := by
  have := gl_rc' a redP_nil
  rwa [gl_own (rc_red h)] at this
theorem stp_pn {T : List (List Int)} (h : RedT T) {i : Nat} (hi : i + 1 < T.length) : stp (stp T ((i + 1 : Nat) : Int)) (-((i + 1 : Nat) : Int)) = T := by
  refine listL_ext (by rw [stp_len, stp_len]) fun j _ => ?_
  have hi2 : i + 1 < (stp T ((i + 1 : Nat) : Int)).length := by rw [stp_len]; exact hi
  have ha := h i
  have hb := h (i + 1)
  by_cases e0 : j = i
  · rw [e0, stp_n0 hi2, stp_p1 hi]
  · by_cases e1 : j = i + 1
    · rw [e1, stp_n1 hi2, stp_p0 hi, stp_p1 hi, gl_assoc (rc_red ha), gl_rc' _ (gl_red (rc_red ha) _), gl_assoc (rc_red ha), rc_self ha, gl_own hb]
    · rw [stp_nj hi2 e0 e1, stp_pj hi e0 e1]
theorem stp_np {T : List (List Int)} (h : RedT T) {i : Nat} (hi : i + 1 < T.length) : stp (stp T (-((i + 1 : Nat) : Int))) ((i + 1 : Nat) : Int) = T := by
  refine listL_ext (by rw [stp_len, stp_len]) fun j _ => ?_
  have hi2 : i + 1 < (stp T (-((i + 1 : Nat) : Int))).length := by rw [stp_len]; exact hi
  have ha := h i
  have hb := h (i + 1)
  by_cases e0 : j = i
  · rw [e0, stp_p0 hi2, stp_n0 hi, stp_n1 hi, ← gl_assoc hb, gl_rc _ (gl_red (rc_red hb) _), gl_assoc hb]
    have e2 : gl (T.getD (i + 1) []) (rc (T.getD (i + 1) [])) = [] := by
      have := gl_rc (T.getD (i + 1) []) redP_nil
      rwa [gl_own hb] at this
    rw [e2, gl_own ha]
  · by_cases e1 : j = i + 1
    · rw [e1, stp_p1 hi2, stp_n0 hi]
    · rw [stp_pj hi2 e0 e1, stp_nj hi e0 e1]
theorem stp_far {T : List (List Int)} {a b : Nat} (ha : a + 1 < T.length) (hb : b + 1 < T.length) (hab : a + 1 < b ∨ b + 1 < a) : stp (stp T ((a + 1 : Nat) : Int)) ((b + 1 : Nat) : Int) = stp (stp T ((b + 1 : Nat) : Int)) ((a + 1 : Nat) : Int) := by
  refine listL_ext (by rw [stp_len, stp_len, stp_len, stp_len]) fun j _ => ?_
  have ha2 : a + 1 < (stp T ((b + 1 : Nat) : Int)).length := by rw [stp_len]; exact ha
  have hb2 : b + 1 < (stp T ((a + 1 : Nat) : Int)).length := by rw [stp_len]; exact hb
  by_cases e0 : j = a
  · rw [e0, stp_pj hb2 (by omega) (by omega), stp_p0 ha, stp_p0 ha2, stp_pj hb (by omega) (by omega), stp_pj hb (by omega) (by omega)]
  · by_cases e1 : j = a + 1
    · rw [e1, stp_pj hb2 (by omega) (by omega), stp_p1 ha, stp_p1 ha2, stp_pj hb (by omega) (by omega)]
    · by_cases e2 : j = b
      · rw [e2, stp_p0 hb2, stp_pj ha (by omega) (by omega), stp_pj ha (by omega) (by omega), stp_pj ha2 (by omega) (by omega), stp_p0 hb]
      · by_cases e3 : j = b + 1
        · rw [e3, stp_p1 hb2, stp_pj ha (by omega) (by omega), stp_pj ha2 (by omega) (by omega), stp_p1 hb]
        · rw [stp_pj hb2 e2 e3, stp_pj ha e0 e1, stp_pj ha2 e0 e1, stp_pj hb e2 e3]
theorem stp_near {T : List (List Int)} (h : RedT T) {a : Nat} (hb : a + 1 + 1 < T.length) : stp (stp (stp T ((a + 1 : Nat) : Int)) ((a + 1 + 1 : Nat) : Int)) ((a + 1 : Nat) : Int) = stp (stp (stp T ((a + 1 + 1 : Nat) : Int)) ((a + 1 : Nat) : Int)) ((a + 1 + 1 : Nat) : Int) := by
  have ha : a + 1 < T.length := by omega
  refine listL_ext (by rw [stp_len, stp_len, stp_len, stp_len, stp_len, stp_len]) fun j _ => ?_
  have p1 : a + 1 + 1 < (stp T ((a + 1 : Nat) : Int)).length := by rw [stp_len]; exact hb
  have p2 : a + 1 < (stp (stp T ((a + 1 : Nat) : Int)) ((a + 1 + 1 : Nat) : Int)).length := by rw [stp_len, stp_len]; exact ha
  have q1 : a + 1 < (stp T ((a + 1 + 1 : Nat) : Int)).length := by rw [stp_len]; exact ha
  have q2 : a + 1 + 1 < (stp (stp T ((a + 1 + 1 : Nat) : Int)) ((a + 1 : Nat) : Int)).length := by rw [stp_len, stp_len]; exact hb
  have r0 := h a
  have r1 := h (a + 1)
  have r2 := h (a + 1 + 1)
  by_cases e0 : j = a
  · rw [e0, stp_p0 p2, stp_pj p1 (by omega) (by omega), stp_p0 p1, stp_p0 ha, stp_p1 ha, stp_pj ha (by omega) (by omega), stp_pj q2 (by omega) (by omega), stp_p0 q1, stp_p0 hb, stp_pj hb (by omega) (by omega)]
    generalize T.getD a [] = x at r0 ⊢
    generalize T.getD (a + 1) [] = y at r1 ⊢
    generalize T.getD (a + 1 + 1) [] = z at r2 ⊢
    have rx := rc_red r0
    have ry := rc_red r1
    have rxy := gl_red r0 y
    rw [rc_gl rxy rx, rc_gl r0 r1, rc_rc, gl_assoc (gl_red rxy _), gl_assoc (gl_red rxy _), gl_rc' x rxy, gl_assoc (gl_red (gl_red rxy z) _), gl_rc' x (gl_red rxy z), gl_assoc (gl_red rxy z), gl_assoc r0, gl_assoc r0]
  · by_cases e1 : j = a + 1
    · rw [e1, stp_p1 p2, stp_pj p1 (by omega) (by omega), stp_p0 ha, stp_p0 q2, stp_p1 q1, stp_pj q1 (by omega) (by omega), stp_pj hb (by omega) (by omega), stp_p1 hb]
    · by_cases e2 : j = a + 1 + 1
      · rw [e2, stp_pj p2 (by omega) (by omega), stp_p1 p1, stp_p1 ha, stp_p1 q2, stp_p1 q1, stp_pj hb (by omega) (by omega)]
      · rw [stp_pj p2 e0 e1, stp_pj p1 e1 e2, stp_pj ha e0 e1, stp_pj q2 e1 e2, stp_pj q1 e0 e1, stp_pj hb e1 e2]
end Go.Proofs.Ythlmkoiilgjflaa
/- Ends of strands: the walks of braid.Ends and of ref.EndsOf. -/
namespace Go.Proofs.Ythlmkoiilgjflaa
open Go.RowKit

/-- The first k places. -/
def plTo (d : Int) (k i : Nat) : Int := if i < k then (i : Int) + d else 0
theorem plTo_zero (n : Nat) (d : Int) : List.replicate n 0 = mapI n (plTo d 0) := (mapI_zero _ _ (fun j _ => by unfold plTo; rw [if_neg (by omega)])).symm
theorem plTo_next (n : Nat) (d : Int) (k : Nat) : (mapI n (plTo d k)).set k ((k : Int) + d) = mapI n (plTo d (k + 1)) := by
  refine mapI_set _ _ _ _ _ fun j _ => ?_
  unfold plTo
  by_cases e : j = k
  · subst e; rw [if_pos (by omega), if_pos rfl]
  · rw [if_neg e]
    by_cases h : j < k
    · rw [if_pos h, if_pos (by omega)]
    · rw [if_neg h, if_neg (by omega)]
theorem plTo_all (n : Nat) (d : Int) : mapI n (plTo d n) = mapI n fun i => (i : Int) + d := mapI_congr _ _ _ fun j hj => by unfold plTo; rw [if_pos hj]

set_option maxHeartbeats 2000000 in
set_option maxRecDepth 100000 in
theorem brSize_any (x : Int) (w : World) (h1 : -1000 ≤ x) (h2 : x ≤ 1000) :
    Calls Try.prog 26 #[.int .i64 x] w fun e w' => e = .returned (.int .i64 (x.natAbs : Int)) ∧ w' = w := by
  by_cases h0 : x < 0
  · have HE : Hid (-x = (x.natAbs : Int)) := (by omega : -x = (x.natAbs : Int))
    have hc : x < -x := by omega
    go_enter Try.func26, Try.ntmps26
    go_wp2
    go_ret
    exact ⟨by rw [← HE.out]; rfl, rfl⟩
  · have HE : Hid (x = (x.natAbs : Int)) := (by omega : x = (x.natAbs : Int))
    have hc : ¬ x < -x := by omega
    go_enter Try.func26, Try.ntmps26
    go_wp2
    go_ret
    exact ⟨by rw [← HE.out]; rfl, rfl⟩

set_option maxHeartbeats 4000000 in
set_option maxRecDepth 100000 in
theorem places_any (n : Nat) (w : World) (hn : n ≤ 6) :
    Calls Try.prog 22 #[.int .i64 (n : Nat)] w fun e w' => ∃ a c, e = .returned (.slice a n c) ∧ w'.ownsRow w.heap.size 3 1 (.slice a n c) n (intsV (mapI n fun i => (i : Int) + 1)) ∧ w.grownBy w' none := by
  obtain ⟨i0, hi, hz0, hz1, hz2⟩ := info_parts infoInt
  go_enter Try.func22, Try.ntmps22
  go_wp2_with (first | (at_make; refine wpList_make_full _ rfl _ _ 22 rfl w.heap.size 3 i0 (.int .i64 0) 1 Try.underlying22 hi hz0 hz1 .i64 .i64 _ _ n rfl rfl rfl rfl (by rw [hz2]; omega) (by unfold maxLen; omega) (by simp) ?_; intro w1 hrow1 hg1; refine Hid.out ?_))
  refine Lib.hid ?_
  rw [made_zero, plTo_zero n 1] at hrow1
  obtain ⟨g, hg⟩ : ∃ g, w.heap.size = g := ⟨_, rfl⟩
  have HG : Hid (w.heap.size = g) := hg
  rw [hg] at hrow1 ⊢
  have HR1 : Hid (w1.ownsRow g 3 1 (.slice (some ⟨g, 0, none⟩) n n) n (intsV (mapI n (plTo 1 0))) ∧ w.grownBy w1 none) := ⟨hrow1, hg1⟩
  clear hrow1 hg1 hg
  go_wp2
  go_loopw [8] (fun v8 wr => ∃ k : Nat, k ≤ n ∧ v8 = .int .i64 (k : Nat) ∧ Hid (wr.ownsRow g 3 1 (.slice (some ⟨g, 0, none⟩) n n) n (intsV (mapI n (plTo 1 k))) ∧ w.grownBy wr none)) (fun v8 _ => n - (intOf v8).toNat)
  case atStart => exact ⟨0, Nat.zero_le _, rfl, HR1.out⟩
  case round =>
    clear HR1
    rename World => W1
    obtain ⟨k, hkn, rfl, hp⟩ := hrel
    by_cases hk : k < n
    · have hkI : (k : Int) < (n : Int) := by omega
      have e0 := hp.out.1.cellAt k (by omega)
      rw [intsV_get _ k (by rw [mapI_len]; exact hk)] at e0
      have f0 := hp.out.1.frozenAt k
      have lg := (hp.out.1.lt g rfl).2
      have hst := hp.out.1.stored k (.int .i64 ((k : Int) + 1))
      rw [intsV_set, plTo_next] at hst
      have HST : Hid ((W1.setCell ⟨g, k, none⟩ (.int .i64 ((k : Int) + 1))).ownsRow g 3 1 (.slice (some ⟨g, 0, none⟩) n n) n (intsV (mapI n (plTo 1 (k + 1)))) ∧ w.grownBy (W1.setCell ⟨g, k, none⟩ (.int .i64 ((k : Int) + 1))) none) := ⟨hst.1, ⟨hst.2.os.trans hp.out.2.os, hst.2.tape.trans hp.out.2.tape, hst.2.output.trans hp.out.2.output, Nat.le_trans hp.out.2.size hst.2.size, fun q hq _ => (hst.2.block q (Nat.lt_of_lt_of_le hq hp.out.2.size) (fun e => by have h1 : q = g := Option.some.inj e; have := HG.out; omega)).trans (hp.out.2.block q hq (by simp))⟩⟩
      clear hst
      generalize (mapI n (plTo 1 k)).getD k 0 = z at e0
      go_wp2
      go_roundw
      case rel => exact ⟨k + 1, by omega, by go_num, HST.out⟩
      case measure => simp only [intOf]; omega
    · obtain rfl : k = n := by omega
      rw [plTo_all] at hp
      go_wp2
      go_ret
      exact ⟨_, _, rfl, by rw [HG.out]; exact hp.out.1, hp.out.2⟩

set_option maxHeartbeats 8000000 in
set_option maxRecDepth 100000 in
theorem trade_any (B g cap n i j : Nat) (l : List Int) (w : World) (hl : l.length = n) (hn : n ≤ 1000) (hi : i < n) (hij : i = j + 1) (h : w.ownsRow B 3 1 (.slice (some ⟨g, 0, none⟩) n cap) n (intsV l)) :
    Calls Try.prog 25 #[.slice (some ⟨g, 0, none⟩) n cap, .int .i64 (i : Nat)] w fun e w' => e = .returned (.tuple #[]) ∧ w'.ownsRow B 3 1 (.slice (some ⟨g, 0, none⟩) n cap) n (intsV (trd l i)) ∧ w.grownBy w' (some g) := by
  have e0 : w.cell? ⟨g, j, none⟩ = some (.int .i64 (l.getD j 0)) := by rw [h.cellAt j (by omega), intsV_get _ j (by omega)]
  have e1 : w.cell? ⟨g, i, none⟩ = some (.int .i64 (l.getD i 0)) := by rw [h.cellAt i (by omega), intsV_get _ i (by omega)]
  have f0 : w.frozen? ⟨g, j, none⟩ = false := h.frozenAt j
  have f1 : w.frozen? ⟨g, i, none⟩ = false := h.frozenAt i
  have hst := h.stored j (.int .i64 (l.getD i 0))
  have hst2 := hst.1.stored i (.int .i64 (l.getD j 0))
  have etr : (l.set j (l.getD i 0)).set i (l.getD j 0) = trd l i := by unfold trd; rw [show i - 1 = j by omega]
  rw [intsV_set, intsV_set, etr] at hst2
  obtain ⟨x, hx⟩ : ∃ x, l.getD j 0 = x := ⟨_, rfl⟩
  obtain ⟨y, hy⟩ : ∃ y, l.getD i 0 = y := ⟨_, rfl⟩
  rw [hx] at e0 hst2
  rw [hy] at e1 hst hst2
  have HST : Hid (((w.setCell ⟨g, j, none⟩ (.int .i64 y)).setCell ⟨g, i, none⟩ (.int .i64 x)).ownsRow B 3 1 (.slice (some ⟨g, 0, none⟩) n cap) n (intsV (trd l i)) ∧ w.grownBy ((w.setCell ⟨g, j, none⟩ (.int .i64 y)).setCell ⟨g, i, none⟩ (.int .i64 x)) (some g)) := ⟨hst2.1, grown_trans hst.2 hst2.2⟩
  have hgw := (h.lt g rfl).2
  have hiI : (i : Int) < (n : Int) := by omega
  have hjI : (j : Int) < (n : Int) := by omega
  have hne : j ≠ i := by omega
  have hjn : j < n := by omega
  have ew : IntKind.i64.wrap ((i : Int) - 1) = (j : Int) := by rw [IntWalk.i64_in _ (by omega)]; omega
  clear hst hst2 etr hx hy hij h hl
  go_enter Try.func25, Try.ntmps25
  go_wp2
  apply cut_one
  case h =>
    intro key
    go_region_with (fail)
    all_goals exact key.out
  obtain ⟨X, hX⟩ : ∃ X, X = ((w.setCell ⟨g, j, none⟩ (.int .i64 y)).setCell ⟨g, i, none⟩ (.int .i64 x)).drew := ⟨_, rfl⟩
  have HX : Hid (X.ownsRow B 3 1 (.slice (some ⟨g, 0, none⟩) n cap) n (intsV (trd l i)) ∧ w.grownBy X (some g)) := (by
    rw [hX]
    exact ⟨own_any HST.out.1 (grown_below ((Below.refl _ _).drew) none), grown_trans HST.out.2 (grown_below ((Below.refl _ _).drew) _)⟩)
  rw [← hX]
  clear hX HST e0 e1 f0 f1
  go_wp2
  exact bodyPost_end (v := .tuple #[]) (results_none rfl _ _ _) rfl ⟨rfl, HX.out⟩

set_option maxHeartbeats 4000000 in
set_option maxRecDepth 100000 in
theorem turnedRound_any (v : Value) (n : Nat) (l : List Int) (w : World) (hn : n ≤ 1000) (hp : PlOk n l) (h : RdAt w w.heap.size 1 v n (intsV l)) :
    Calls Try.prog 27 #[v] w fun e w' => ∃ a c, e = .returned (.slice a n c) ∧ w'.ownsRow w.heap.size 3 1 (.slice a n c) n (intsV (endT l n)) ∧ Below w.heap.size w w' := by
  obtain ⟨i0, hi, hz0, hz1, hz2⟩ := info_parts infoInt
  obtain ⟨a, cap, rfl⟩ : ∃ a cap, v = .slice a n cap := by obtain ⟨a, cap, e, -⟩ := h; exact ⟨a, cap, e⟩
  have HRD : Hid (RdAt w w.heap.size 1 (.slice a n cap) n (intsV l)) := h
  have HP : Hid (PlOk n l) := hp
  clear h hp
  go_enter Try.func27, Try.ntmps27
  go_wp2_with (first | (at_make; refine wpList_make_full _ rfl _ _ 22 rfl w.heap.size 3 i0 (.int .i64 0) 1 Try.underlying22 hi hz0 hz1 .i64 .i64 _ _ n rfl rfl rfl rfl (by rw [hz2]; omega) (by unfold maxLen; omega) (by simp) ?_; intro w1 hrow1 hg1; refine Hid.out ?_))
  refine Lib.hid ?_
  rw [made_zero] at hrow1
  obtain ⟨g, hg⟩ : ∃ g, w.heap.size = g := ⟨_, rfl⟩
  have HG : Hid (w.heap.size = g) := hg
  have HB1 : Hid (Below w.heap.size w w1) := (Below.refl _ _).grown hg1 (Nat.le_refl _) (fun k hk => by cases hk)
  rw [hg] at hrow1
  rw [hg]
  have HR1 : Hid (w1.ownsRow g 3 1 (.slice (some ⟨g, 0, none⟩) n n) n (intsV (endT l 0))) := (by
    have e : endT l 0 = List.replicate n 0 := by show List.replicate l.length 0 = _; rw [HP.out.ln]
    rw [e]
    exact hrow1)
  clear hrow1 hg1 hg
  go_wp2
  go_loopw [11] (fun v11 wr => ∃ k : Nat, k ≤ n ∧ v11 = .int .i64 (k : Nat) ∧ Hid (wr.ownsRow g 3 1 (.slice (some ⟨g, 0, none⟩) n n) n (intsV (endT l k))) ∧ Hid (Below w.heap.size w wr)) (fun v11 _ => n - (intOf v11).toNat)
  case atStart => exact ⟨0, Nat.zero_le _, rfl, HR1.out, HB1.out⟩
  case round =>
    clear HR1 HB1
    rename World => W1
    obtain ⟨k, hkn, rfl, hp, hb⟩ := hrel
    by_cases hk : k < n
    · have hkI : (k : Int) < (n : Int) := by omega
      have hll := HP.out.ln
      have hrd := HRD.out.on hb.out
      have hrr : RdAt W1 w.heap.size 1 (.slice a l.length cap) l.length (intsV l) := by rw [hll]; exact hrd
      obtain ⟨b, off, ea, hlt, hc⟩ := hrr.intAt k (by omega)
      obtain ⟨r1, r2⟩ := HP.out.rng k hk
      have HEN : Hid (endT l (k + 1) = (endT l k).set (l.getD k 0 - 1).toNat ((k : Int) + 1)) := endT_next l k
      obtain ⟨q, hq⟩ : ∃ q : Nat, l.getD k 0 = (q : Int) + 1 := ⟨(l.getD k 0 - 1).toNat, by omega⟩
      rw [hq] at hc r2 HEN
      have hqn : q < n := by omega
      have hqI : (q : Int) < (n : Int) := by omega
      have HEN2 : Hid (endT l (k + 1) = (endT l k).set q ((k : Int) + 1)) := (by rw [HEN.out, show ((q : Int) + 1 - 1).toNat = q by omega] : endT l (k + 1) = (endT l k).set q ((k : Int) + 1))
      have e0 := hp.out.cellAt q (by omega)
      rw [intsV_get _ q (by rw [endT_len, hll]; exact hqn)] at e0
      generalize (endT l k).getD q 0 = z at e0
      have f0 := hp.out.frozenAt q
      have lg := (hp.out.lt g rfl).2
      have lb : b < W1.heap.size := Nat.lt_of_lt_of_le hlt hb.out.size
      have hst := hp.out.stored q (.int .i64 ((k : Int) + 1))
      rw [intsV_set, ← HEN2.out] at hst
      have HST : Hid ((W1.setCell ⟨g, q, none⟩ (.int .i64 ((k : Int) + 1))).ownsRow g 3 1 (.slice (some ⟨g, 0, none⟩) n n) n (intsV (endT l (k + 1)))) := hst.1
      have HBS : Hid (Below w.heap.size w (W1.setCell ⟨g, q, none⟩ (.int .i64 ((k : Int) + 1)))) := hb.out.grown hst.2 hb.out.size (fun x hx => by have h1 : g = x := Option.some.inj hx; have := HG.out; omega)
      clear hst HEN HEN2 hrd hrr hll r1 r2 hq
      subst ea
      go_wp2
      go_roundw
      case rel => exact ⟨k + 1, by omega, by go_num, HST.out, HBS.out⟩
      case measure => simp only [intOf]; omega
    · obtain rfl : k = n := by omega
      go_wp2
      go_ret
      exact ⟨_, _, rfl, by rw [HG.out]; exact hp.out, hb.out⟩

/-- A list of one word. -/
theorem ints_one {w W : World} {a : Option Addr} {c g : Nat} {l : List Int} (h : RdAt w w.heap.size 1 (.slice a l.length c) l.length (intsV l)) (hW : Below w.heap.size w W) (hg : W.heap[g]? = some (.cells #[.slice a l.length c] 22 (0, 0))) : IntsRd W W.heap.size (.slice (some ⟨g, 0, none⟩) 1 1) [l] := by
  refine ⟨[.slice a l.length c], rfl, ⟨_, _, rfl, fun _ => ⟨g, 0, rfl, (Array.getElem?_eq_some_iff.1 hg).1, fun j hj => ?_⟩⟩, fun j hj => ?_⟩
  · obtain rfl : j = 0 := by simp at hj; omega
    exact block_cell hg rfl
  · obtain rfl : j = 0 := by simp at hj; omega
    exact (h.on hW).mono hW.size

theorem refusal_one {w W : World} {a : Option Addr} {c g : Nat} {l : List Int} (n : Int) (hl : l.length * 8 ≤ 140737488355328) (h : RdAt w w.heap.size 1 (.slice a l.length c) l.length (intsV l)) (hW : Below w.heap.size w W) (hg : W.heap[g]? = some (.cells #[.slice a l.length c] 22 (0, 0))) :
    Calls Try.prog 8 #[.int .i64 n, .slice (some ⟨g, 0, none⟩) 1 1] W fun e w' => e = .returned (.int .i64 (wordN n l)) ∧ Below W.heap.size W w' := by
  have := refusal_any (.slice (some ⟨g, 0, none⟩) 1 1) [l] n W (by simp) (fun j hj => by
    obtain rfl : j = 0 := by simp at hj; omega
    show l.length ≤ _
    omega) (ints_one h hW hg)
  rw [wordsN_one] at this
  exact this
end Go.Proofs.Ythlmkoiilgjflaa
