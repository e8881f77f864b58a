/- ARTIN: what Act tells, tells words apart: plain mathematics. -/
import Derived.Test.YthlmkoiilgjflaaNB4eP
namespace Go.Proofs.Ythlmkoiilgjflaa

/-- How often a letter stands there, less its reciprocal. -/
def ex1 (N : Nat) (z : Int) : Int := if z = (N : Int) then 1 else if z = -(N : Int) then -1 else 0
def exL (N : Nat) : List Int → Int
  | [] => 0
  | z :: W => ex1 N z + exL N W
theorem ex1_neg {N : Nat} (hN : 1 ≤ N) (z : Int) : ex1 N (-z) = -ex1 N z := by unfold ex1; split <;> split <;> (try split) <;> omega
theorem ex_app (N : Nat) (A B : List Int) : exL N (A ++ B) = exL N A + exL N B := by
  induction A with
  | nil => show exL N B = 0 + exL N B; omega
  | cons z A ih => show ex1 N z + exL N (A ++ B) = ex1 N z + exL N A + exL N B; omega
theorem ex_push {N : Nat} (hN : 1 ≤ N) (o : List Int) (x : Int) : exL N (push o x) = exL N o + ex1 N x := by
  by_cases hc : 0 < o.length ∧ o.getD (o.length - 1) 0 = -x
  · have e1 : push o x = o.take (o.length - 1) := by unfold push; rw [if_pos hc]
    have e2 := snoc_of hc.1
    rw [hc.2] at e2
    rw [e1]
    conv => rhs; rw [e2, ex_app]
    show _ = exL N (o.take (o.length - 1)) + (ex1 N (-x) + 0) + ex1 N x
    rw [ex1_neg hN]
    omega
  · have e1 : push o x = o ++ [x] := by unfold push; rw [if_neg hc]
    rw [e1, ex_app]
    show _ + (ex1 N x + 0) = _
    omega
theorem ex_gl {N : Nat} (hN : 1 ≤ N) : ∀ (B A : List Int), exL N (gl A B) = exL N A + exL N B
  | [], A => by show exL N A = exL N A + 0; omega
  | b :: B, A => by
    show exL N (gl (push A b) B) = exL N A + (ex1 N b + exL N B)
    rw [ex_gl hN B, ex_push hN]
    omega
theorem ex_rc {N : Nat} (hN : 1 ≤ N) : ∀ (A : List Int), exL N (rc A) = -exL N A
  | [] => by rw [rc_nil]; rfl
  | x :: A => by
    rw [rc_cons, ex_app, ex_rc hN A]
    show -exL N A + (ex1 N (-x) + 0) = -(ex1 N x + exL N A)
    rw [ex1_neg hN]
    omega
theorem ex_stp {N : Nat} (hN : 1 ≤ N) {T : List (List Int)} {x : Int} (hx : LtN T.length x) (j : Nat) : exL N ((stp T x).getD j []) = exL N (T.getD (swp (x.natAbs - 1) j) []) := by
  have h1 := hx.1
  have h2 := hx.2
  obtain ⟨i, hi⟩ : ∃ i, x.natAbs = i + 1 := ⟨x.natAbs - 1, by omega⟩
  have hin : i + 1 < T.length := by omega
  rw [hi, Nat.add_sub_cancel]
  have hc : ∀ a b : List Int, exL N (gl (gl a b) (rc a)) = exL N b := fun a b => by rw [ex_gl hN, ex_gl hN, ex_rc hN]; omega
  have hd : ∀ a b : List Int, exL N (gl (gl (rc a) b) a) = exL N b := fun a b => by rw [ex_gl hN, ex_gl hN, ex_rc hN]; omega
  by_cases hp : 0 < x
  · rw [show x = ((i + 1 : Nat) : Int) by omega]
    by_cases e0 : j = i
    · rw [e0, stp_p0 hin, swp_fst, hc]
    · by_cases e1 : j = i + 1
      · rw [e1, stp_p1 hin, swp_snd]
      · rw [stp_pj hin e0 e1, swp_out e0 e1]
  · rw [show x = -((i + 1 : Nat) : Int) by omega]
    by_cases e0 : j = i
    · rw [e0, stp_n0 hin, swp_fst]
    · by_cases e1 : j = i + 1
      · rw [e1, stp_n1 hin, swp_snd, hd]
      · rw [stp_nj hin e0 e1, swp_out e0 e1]
theorem fold_len : ∀ (w : List Int) (T : List (List Int)), (w.foldl stp T).length = T.length
  | [], _ => rfl
  | x :: w, T => by show (w.foldl stp (stp T x)).length = _; rw [fold_len w, stp_len]
theorem ex_fold {N M : Nat} (hN : 1 ≤ N) : ∀ {w : List Int} {T : List (List Int)}, T.length = M → Vl M w → ∀ j, exL N ((w.foldl stp T).getD j []) = exL N (T.getD (pj w j) [])
  | [], _, _, _, _ => rfl
  | x :: w, T, hT, hw, j => by
    show exL N ((w.foldl stp (stp T x)).getD j []) = exL N (T.getD (swp (x.natAbs - 1) (pj w j)) [])
    rw [ex_fold hN (w := w) (T := stp T x) (by rw [stp_len]; exact hT) (fun z hz => hw z (.tail _ hz)) j, ex_stp hN (by rw [hT]; exact hw x (.head _))]
theorem pj_app (A B : List Int) (j : Nat) : pj (A ++ B) j = pj A (pj B j) := by unfold pj; rw [List.foldr_append]
theorem pj_inj : ∀ (w : List Int) {j k : Nat}, pj w j = pj w k → j = k
  | [], _, _, e => e
  | _ :: w, _, _, e => pj_inj w (swp_inj e)
theorem pj_rc : ∀ (u : List Int) (j : Nat), pj u (pj (rc u) j) = j
  | [], _ => by rw [rc_nil]; rfl
  | x :: u, j => by
    rw [rc_cons, pj_app]
    show swp (x.natAbs - 1) (pj u (pj (rc u) (swp ((-x).natAbs - 1) j))) = j
    rw [pj_rc u, Int.natAbs_neg, swp_swp]
theorem pj_aw1 (N : Nat) (x : Int) (j : Nat) : pj (aw1 N x) j = j := by
  unfold aw1
  rw [pj_app, pj_app]
  show pj _ (swp (x.natAbs - 1) (swp (x.natAbs - 1) (pj _ j))) = j
  rw [swp_swp, pj_rc]
theorem pj_aw (N : Nat) (j : Nat) : ∀ (l : List Int), pj (awL N l) j = j
  | [] => rfl
  | x :: l => by rw [aw_cons, pj_app, pj_aw N j l, pj_aw1]
theorem pj_low {N : Nat} : ∀ {w : List Int}, Vl (N - 1) w → pj w (N - 1) = N - 1
  | [], _ => rfl
  | x :: w, hw => by
    have h1 := hw x (.head _)
    have h2 := h1.1
    have h3 := h1.2
    show swp (x.natAbs - 1) (pj w (N - 1)) = N - 1
    rw [pj_low (fun z hz => hw z (.tail _ hz)), swp_out (by omega) (by omega)]
/-- The last strand comes back to its place. -/
theorem back_home {N k : Nat} (h2 : 2 ≤ N) (h6 : N ≤ 6) {hh α : List Int} (hv : Vl (N - 1) hh) (ha : Vl N α) (h1 : 1 ≤ k) (hk : k ≤ N) (e : (hh ++ awL N α ++ cw N k).foldl stp (act0 N) = act0 N) : k = N := by
  have up : Vl N hh := fun z hz => ltN_up (hv z hz)
  have h3 := ex_fold (N := N) (M := N) (by omega) (act0_red N).2 ((up.app (vl_aw ha)).app (vl_cw h1)) (N - 1)
  rw [e, act0_at, if_pos (by omega), pj_app, pj_app, pj_aw, act0_at] at h3
  have h4 : pj hh (pj (cw N k) (N - 1)) = N - 1 := by
    by_cases q : pj hh (pj (cw N k) (N - 1)) < N
    · rw [if_pos q] at h3
      have h5 : exL N [((N - 1 : Nat) : Int) + 1] = 1 := by
        show ex1 N _ + 0 = 1
        unfold ex1
        rw [if_pos (by omega)]
        rfl
      rw [h5] at h3
      have h6' : ex1 N ((pj hh (pj (cw N k) (N - 1)) : Nat) + 1 : Int) + 0 = 1 := h3.symm
      unfold ex1 at h6'
      split at h6'
      · omega
      · split at h6' <;> omega
    · rw [if_neg q] at h3
      have h5 : exL N [((N - 1 : Nat) : Int) + 1] = 1 := by
        show ex1 N _ + 0 = 1
        unfold ex1
        rw [if_pos (by omega)]
        rfl
      rw [h5] at h3
      cases h3
  have h5 : pj (cw N k) (N - 1) = N - 1 := pj_inj hh (h4.trans (pj_low hv).symm)
  by_cases q : k = N
  · exact q
  · have := of_decide_eq_true (List.all_eq_true.1 (okP_all h2 h6) (k - 1) (List.mem_range.2 (by omega)))
    rw [show k - 1 + 1 = k by omega] at this
    exact (this h5).elim
theorem vl_push {n : Nat} {o : List Int} {x : Int} (ho : Vl n o) (hx : LtN n x) : Vl n (push o x) := by
  unfold push
  split
  · exact fun z hz => ho z (List.mem_of_mem_take hz)
  · exact ho.app (Vl.one hx)
theorem vl_gl {n : Nat} : ∀ {b a : List Int}, Vl n a → Vl n b → Vl n (gl a b)
  | [], _, ha, _ => ha
  | x :: b, a, ha, hb => vl_gl (b := b) (a := push a x) (vl_push ha (hb x (.head _))) (fun z hz => hb z (.tail _ hz))
def VT (n : Nat) (T : List (List Int)) : Prop := ∀ j, Vl n (T.getD j [])
theorem VT.stp {n : Nat} {T : List (List Int)} (h : VT n T) (x : Int) : VT n (stp T x) := by
  intro j
  unfold Go.Proofs.Ythlmkoiilgjflaa.stp
  split
  · rw [getD_setL, getD_setL]
    split
    · exact h _
    · split
      · exact vl_gl (vl_gl (h _) (h _)) (h _).rc
      · exact h _
  · rw [getD_setL, getD_setL]
    split
    · exact vl_gl (vl_gl (h _).rc (h _)) (h _)
    · split
      · exact h _
      · exact h _
theorem VT.fold {n : Nat} : ∀ (w : List Int) {T : List (List Int)}, VT n T → VT n (w.foldl Go.Proofs.Ythlmkoiilgjflaa.stp T)
  | [], _, h => h
  | x :: w, _, h => VT.fold w (h.stp x)
theorem vt_act0 (N : Nat) : VT (N + 1) (act0 N) := by
  intro j
  rw [act0_at]
  split
  · exact Vl.one ⟨by omega, by omega⟩
  · exact Vl.nil _
theorem redT_fold : ∀ (w : List Int) {T : List (List Int)}, RedT T → RedT (w.foldl stp T)
  | [], _, h => h
  | x :: w, _, h => redT_fold w (h.stp x)
/-- What is around does not show without the last letter. -/
theorem rho_sub {N : Nat} (h2 : 2 ≤ N) (h6 : N ≤ 6) {x : Int} (hx : LtN N x) (V : List Int) (hV : Vl (N + 1) V) : rho N (sub (tA N x) V) = rho N V := by
  have hT : RedT (tA N x) := redT_fold _ (act0_red N).1
  have hA := List.all_eq_true.1 (okA_all h2 h6) x (mem_lets hx.1 (by have := hx.2; omega))
  rw [Bool.and_eq_true] at hA
  have hA1 := (of_decide_eq_true hA.1).2.2
  have one : ∀ z : Int, LtN (N + 1) z → rho N (im (tA N x) z) = rho N [z] := by
    have pos : ∀ i, i < N → rho N ((tA N x).getD i []) = rho N [((i + 1 : Nat) : Int)] := by
      intro i hi
      by_cases e : i = N - 1
      · rw [e, hA1]
        unfold rho
        rw [List.filter_cons_of_neg (by simp; omega)]
        rfl
      · rw [of_decide_eq_true (List.all_eq_true.1 hA.2 i (List.mem_range.2 (by omega)))]
        unfold rho
        rw [List.filter_cons_of_pos (by simp; omega)]
        rfl
    intro z hz
    have z1 := hz.1
    have z2 := hz.2
    unfold im
    by_cases hp : 0 < z
    · rw [if_pos hp, pos _ (by omega)]
      congr 2
      omega
    · rw [if_neg hp, if_pos (by omega), rho_rc, pos _ (by omega), ← rho_rc, rc_cons, rc_nil]
      congr 1
      simp only [List.nil_append, List.cons.injEq, and_true]
      omega
  have key : ∀ k, k ≤ V.length → rho N (sub (tA N x) (V.take k)) = rho N (V.take k) := by
    intro k
    induction k with
    | zero => intro _; rfl
    | succ k ih =>
      intro hk
      have e : V.take (k + 1) = V.take k ++ [V.getD k 0] := by
        rw [List.take_succ_eq_append_getElem (by omega), List.getD_eq_getElem?_getD, List.getElem?_eq_getElem (by omega)]
        rfl
      have hz : LtN (N + 1) (V.getD k 0) := by
        rw [List.getD_eq_getElem?_getD, List.getElem?_eq_getElem (by omega)]
        exact hV _ (List.getElem_mem _)
      rw [e, sub_snoc, rho_gl, ih (by omega), one _ hz]
      have h3 := rho_gl N (V.take k) [V.getD k 0]
      rw [← h3]
      have h4 : rho N (gl (V.take k) [V.getD k 0]) = rho N (push (V.take k) (V.getD k 0)) := rfl
      rw [h4, rho_push, rho_snoc]
  have := key V.length (Nat.le_refl _)
  rwa [List.take_length] at this
theorem around {N : Nat} (h2 : 2 ≤ N) (h6 : N ≤ 6) : ∀ {β : List Int}, Vl N β → ∃ V, RedP V ∧ Vl (N + 1) V ∧ ((awL N β).foldl stp (act0 N)).getD (N - 1) [] = gl (gl V [(N : Int)]) (rc V) ∧ rho N V = gl [] β.reverse
  | [], _ => by
    refine ⟨[], redP_nil, Vl.nil _, ?_, rfl⟩
    show (act0 N).getD (N - 1) [] = _
    rw [act0_at, if_pos (by omega), rc_nil]
    show [((N - 1 : Nat) : Int) + 1] = [(N : Int)]
    congr 1
    omega
  | x :: β, hβ => by
    have hx := hβ x (.head _)
    obtain ⟨V, v1, v2, v3, v4⟩ := around h2 h6 (β := β) (fun z hz => hβ z (.tail _ hz))
    have hA := List.all_eq_true.1 (okA_all h2 h6) x (mem_lets hx.1 (by have := hx.2; omega))
    rw [Bool.and_eq_true] at hA
    obtain ⟨a1, a2, -⟩ := of_decide_eq_true hA.1
    have hT : RedT (tA N x) := redT_fold _ (act0_red N).1
    have hTl : (tA N x).length = N := by unfold tA; rw [fold_len]; exact (act0_red N).2
    have hVT : VT (N + 1) (tA N x) := VT.fold _ (vt_act0 N)
    have hs := sub_red hT V
    have hvA : Vl (N + 1) (vA N x) := fun z hz => hVT (N - 1) z (List.mem_of_mem_take hz)
    have hsV : Vl (N + 1) (sub (tA N x) V) := by
      have him : ∀ z, Vl (N + 1) (im (tA N x) z) := fun z => by
        unfold im
        split
        · exact hVT _
        · split
          · exact (hVT _).rc
          · exact Vl.nil _
      exact foldl_keeps (fun o z => gl o (im (tA N x) z)) (Vl (N + 1)) (fun _ z ho => vl_gl ho (him z)) V [] (Vl.nil _)
    refine ⟨gl (sub (tA N x) V) (vA N x), gl_red hs _, vl_gl hsV hvA, ?_, ?_⟩
    · rw [aw_cons, List.foldl_append]
      show ((awL N β).foldl stp (tA N x)).getD (N - 1) [] = _
      rw [fold_cmp hT hTl, cmp_at, v3, sub_gl hT, sub_gl hT, sub_rc hT, sub_one hT]
      have e : im (tA N x) (N : Int) = gl (gl (vA N x) [(N : Int)]) (rc (vA N x)) := by
        unfold im
        rw [if_pos (by omega), Int.natAbs_natCast]
        exact a1
      have hvr : RedP (vA N x) := by
        intro i hi
        have hr := hT (N - 1)
        unfold vA at hi ⊢
        rw [List.length_take] at hi
        rw [getD_takeI _ _ _ (by omega), getD_takeI _ _ _ (by omega)]
        exact hr i (by omega)
      rw [e, rc_gl hs hvr, gl_assoc hs, gl_assoc hs, gl_assoc (gl_red (gl_red hs _) _)]
    · rw [rho_gl, rho_sub h2 h6 hx V v2, v4, a2, List.reverse_cons, gl_app]
theorem rc_aw1 (N : Nat) (x : Int) : rc (aw1 N x) = aw1 N (-x) := by
  unfold aw1
  rw [rc_app, rc_app, rc_rc, Int.natAbs_neg, List.append_assoc]
  congr 1
theorem aw_red {N : Nat} : ∀ k (γ : List Int), γ.length ≤ k → Vl N γ → Sm N (awL N γ.reverse) (awL N (gl [] γ).reverse)
  | 0, γ, hk, _ => by
    obtain rfl : γ = [] := List.length_eq_zero_iff.1 (by omega)
    exact Sm.refl N _
  | k + 1, γ, hk, hγ => by
    by_cases h0 : γ.length = 0
    · obtain rfl : γ = [] := List.length_eq_zero_iff.1 h0
      exact Sm.refl N _
    · have e := snoc_of (o := γ) (by omega)
      have hx : LtN N (γ.getD (γ.length - 1) 0) := by
        rw [List.getD_eq_getElem?_getD, List.getElem?_eq_getElem (by omega)]
        exact hγ _ (List.getElem_mem _)
      have hγ' : Vl N (γ.take (γ.length - 1)) := fun z hz => hγ z (List.mem_of_mem_take hz)
      have ih := aw_red k (γ.take (γ.length - 1)) (by rw [List.length_take]; omega) hγ'
      generalize γ.getD (γ.length - 1) 0 = x at e hx
      generalize γ.take (γ.length - 1) = γ' at e hγ' ih
      rw [e, List.reverse_append, gl_snoc]
      show Sm N (awL N (x :: γ'.reverse)) _
      rw [aw_cons]
      have ho : Vl N (gl [] γ') := vl_gl (Vl.nil N) hγ'
      have h1 : Sm N (aw1 N x ++ awL N γ'.reverse) (aw1 N x ++ awL N (gl [] γ').reverse) := (Sm.refl N _).app ih (vl_aw1 hx)
      refine h1.trans ?_
      generalize gl [] γ' = o at ho
      by_cases hc : 0 < o.length ∧ o.getD (o.length - 1) 0 = -x
      · have e1 : push o x = o.take (o.length - 1) := by unfold push; rw [if_pos hc]
        have e2 := snoc_of hc.1
        rw [hc.2] at e2
        rw [e1]
        have hov : Vl N (o.take (o.length - 1)) := fun z hz => ho z (List.mem_of_mem_take hz)
        generalize o.take (o.length - 1) = o' at e2 hov
        rw [e2, List.reverse_append]
        show Sm N (aw1 N x ++ awL N (-x :: o'.reverse)) _
        rw [aw_cons, ← List.append_assoc, ← rc_aw1]
        have h3 : Sm N (aw1 N x ++ rc (aw1 N x) ++ awL N o'.reverse) ([] ++ awL N o'.reverse) := (sm_rc (vl_aw1 hx)).app (Sm.refl N _) (Vl.nil N)
        exact h3
      · have e1 : push o x = o ++ [x] := by unfold push; rw [if_neg hc]
        rw [e1, List.reverse_append]
        show Sm N _ (awL N (x :: o.reverse))
        rw [aw_cons]
        exact Sm.refl N _
theorem rc_aw (N : Nat) : ∀ (l : List Int), rc (awL N l) = awL N (rc l)
  | [] => by rw [rc_nil]; exact rc_nil
  | x :: l => by
    rw [aw_cons, rc_app, rc_aw N l, rc_aw1, rc_cons, aw_app]
    congr 1
    unfold awL
    simp
theorem stp_more {T : List (List Int)} {r : List Int} {x : Int} (hx : LtN T.length x) : stp (T ++ [r]) x = stp T x ++ [r] := by
  have h1 := hx.1
  have h2 := hx.2
  have g : ∀ t, t < T.length → (T ++ [r]).getD t [] = T.getD t [] := fun t ht => by rw [List.getD_eq_getElem?_getD, List.getElem?_append_left ht, ← List.getD_eq_getElem?_getD]
  have s : ∀ (U : List (List Int)) t (v : List Int), t < U.length → (U ++ [r]).set t v = U.set t v ++ [r] := fun U t v ht => by rw [List.set_append, if_pos ht]
  unfold stp
  rw [g _ (by omega), g _ (by omega)]
  split
  · rw [s _ _ _ (by omega), s _ _ _ (by rw [List.length_set]; omega)]
  · rw [s _ _ _ (by omega), s _ _ _ (by rw [List.length_set]; omega)]
theorem fold_more {M : Nat} {r : List Int} : ∀ {w : List Int} {T : List (List Int)}, T.length = M → Vl M w → w.foldl stp (T ++ [r]) = w.foldl stp T ++ [r]
  | [], _, _, _ => rfl
  | x :: w, T, hT, hw => by
    show w.foldl stp (stp (T ++ [r]) x) = w.foldl stp (stp T x) ++ [r]
    rw [stp_more (by rw [hT]; exact hw x (.head _)), fold_more (w := w) (by rw [stp_len]; exact hT) (fun z hz => hw z (.tail _ hz))]
theorem Sm.up {N : Nat} {u v : List Int} (h : Sm (N - 1) u v) : Sm N u v := fun σ f ok hb S hS =>
  h σ f ok ⟨fun S x hS hx => hb.step S x hS (ltN_up hx), fun S x hS hx => hb.neg S x hS (ltN_up hx), fun S a b hS ha hb' hab => hb.far S a b hS (by omega) (by omega) hab, fun S a b hS ha hb' hab => hb.near S a b hS (by omega) (by omega) hab⟩ S hS
/-- ARTIN: what leaves all letters is no braid. -/
theorem artin : ∀ N, N ≤ 6 → ∀ w, Vl N w → w.foldl stp (act0 N) = act0 N → Sm N w []
  | 0, _, w, hw, _ => by
    cases w with
    | nil => exact Sm.refl _ _
    | cons x w => have := hw x (.head _); have h1 := this.1; have h2 := this.2; omega
  | 1, _, w, hw, _ => by
    cases w with
    | nil => exact Sm.refl _ _
    | cons x w => have := hw x (.head _); have h1 := this.1; have h2 := this.2; omega
  | M + 2, h6, w, hw, h => by
    have ih := artin (M + 1) (by omega)
    obtain ⟨hh, α, k, a1, a2, a3, a4, a5⟩ := combed (by omega) h6 w hw
    have h3 : (hh ++ awL (M + 2) α ++ cw (M + 2) k).foldl stp (act0 (M + 2)) = act0 (M + 2) := by
      exact (a5 _ _ _ bact_act _ (act0_red (M + 2))).symm.trans h
    have hk := back_home (by omega) h6 a1 a2 a3 a4 h3
    subst hk
    have e0 : cw (M + 2) (M + 2) = [] := by unfold cw; rw [Nat.sub_self]; rfl
    rw [e0, List.append_nil] at h3 a5
    have up : Vl (M + 2) hh := fun z hz => ltN_up (a1 z hz)
    have va := vl_aw a2
    have vβ : Vl (M + 2) (rc α) := a2.rc
    have h4 : hh.foldl stp (act0 (M + 2)) = (awL (M + 2) (rc α)).foldl stp (act0 (M + 2)) := by
      have h5 : (hh ++ (awL (M + 2) α ++ rc (awL (M + 2) α))).foldl stp (act0 (M + 2)) = hh.foldl stp (act0 (M + 2)) := by
        rw [List.foldl_append]
        exact sm_rc va _ _ _ bact_act _ (bact_act.fold (act0_red (M + 2)) up)
      rw [← h5, ← List.append_assoc, List.foldl_append, h3, rc_aw]
    have hlow : hh.foldl stp (act0 (M + 2)) = hh.foldl stp (act0 (M + 1)) ++ [[((M + 2 : Nat) : Int)]] := by
      have e : act0 (M + 2) = act0 (M + 1) ++ [[((M + 2 : Nat) : Int)]] := by
        unfold act0
        rw [List.range_succ, List.map_append]
        rfl
      rw [e]
      exact fold_more (act0_red (M + 1)).2 a1
    obtain ⟨V, v1, v2, v3, v4⟩ := around (by omega) h6 vβ
    have hlast : (hh.foldl stp (act0 (M + 2))).getD (M + 2 - 1) [] = [((M + 2 : Nat) : Int)] := by
      rw [hlow, List.getD_eq_getElem?_getD, List.getElem?_append_right (by rw [fold_len, (act0_red (M + 1)).2]; omega), fold_len, (act0_red (M + 1)).2, show M + 2 - 1 - (M + 1) = 0 by omega]
      rfl
    rw [h4, v3] at hlast
    have h6' := past_last (N := M + 2) (by omega) V.length V (Nat.le_refl _) v1 hlast
    rw [h6'] at v4
    have h7 : Sm (M + 2) (awL (M + 2) (rc α)) [] := by
      have := aw_red (N := M + 2) (rc α).reverse.length (rc α).reverse (Nat.le_refl _) (fun z hz => vβ z (List.mem_reverse.1 hz))
      rw [List.reverse_reverse, ← v4] at this
      exact this
    have h8 : hh.foldl stp (act0 (M + 1)) = act0 (M + 1) := by
      have h9 : hh.foldl stp (act0 (M + 2)) = act0 (M + 2) := by
        rw [h4]
        exact h7 _ _ _ bact_act _ (act0_red (M + 2))
      have e : act0 (M + 2) = act0 (M + 1) ++ [[((M + 2 : Nat) : Int)]] := by
        unfold act0
        rw [List.range_succ, List.map_append]
        rfl
      rw [hlow] at h9
      conv at h9 => rhs; rw [e]
      exact List.append_cancel_right h9
    have h10 : Sm (M + 2) hh [] := Sm.up (N := M + 2) (ih hh a1 h8)
    have h11 : Sm (M + 2) (awL (M + 2) α) [] := by
      have := sm_rc' (vl_aw vβ) h7
      rw [rc_aw, rc_rc] at this
      exact this
    exact a5.trans (h10.app h11 (Vl.nil _))
/-- ACT TELLS WORDS APART. -/
theorem faith {n : Nat} (h2 : 2 ≤ n) (h6 : n ≤ 6) {u v : List Int} (hu : Vl n u) (hv : Vl n v) : (nfW n u = nfW n v) ↔ (actT n u u.length = actT n v v.length) := by
  refine ⟨fun e => (sm_of h2 hu hv e).act, fun e => ?_⟩
  rw [actT_all, actT_all] at e
  have h3 : (u ++ rc v).foldl stp (act0 n) = act0 n := by
    have h4 : (v ++ rc v).foldl stp (act0 n) = act0 n := sm_rc hv _ _ _ bact_act _ (act0_red n)
    rw [List.foldl_append] at h4 ⊢
    rw [e, h4]
  have h5 := artin n h6 _ (hu.app hv.rc) h3
  have h6' : Sm n (rc v ++ v) [] := by
    have := sm_rc hv.rc
    rwa [rc_rc] at this
  have h7 : Sm n (u ++ rc v ++ v) ([] ++ v) := h5.app (Sm.refl n v) (Vl.nil n)
  have h8 : Sm n (u ++ (rc v ++ v)) (u ++ []) := (Sm.refl n u).app h6' hu
  rw [List.append_nil, ← List.append_assoc] at h8
  exact (h8.symm.trans h7).nf h2
end Go.Proofs.Ythlmkoiilgjflaa
