/- BraidNormals: texts along the normal form's word stay short enough. -/
import Derived.Test.YthlmkoiilgjflaaNB5P
namespace Go.Proofs.Ythlmkoiilgjflaa

/-- All of Delta's square is conjugation by z. -/
def twOk (n : Nat) (z D : List Int) : Bool := decide (gl [] z = z) && ((List.range n).all fun i => decide (im ((D ++ D).foldl stp (act0 n)) ((i + 1 : Nat) : Int) = gl (gl z [((i + 1 : Nat) : Int)]) (rc z)) && decide (im ((D ++ D).foldl stp (act0 n)) (-((i + 1 : Nat) : Int)) = gl (gl z [-((i + 1 : Nat) : Int)]) (rc z)))
def zW (n : Nat) : List Int := (List.range n).map fun i => ((i + 1 : Nat) : Int)
theorem tw_2 : twOk 2 (zW 2) (pw1 2 (pdl 2)) = true ∧ twOk 2 (rc (zW 2)) (rc (pw1 2 (pdl 2))) = true := by decide +kernel
theorem tw_3 : twOk 3 (zW 3) (pw1 3 (pdl 3)) = true ∧ twOk 3 (rc (zW 3)) (rc (pw1 3 (pdl 3))) = true := by decide +kernel
theorem tw_4 : twOk 4 (zW 4) (pw1 4 (pdl 4)) = true ∧ twOk 4 (rc (zW 4)) (rc (pw1 4 (pdl 4))) = true := by decide +kernel
theorem tw_5 : twOk 5 (zW 5) (pw1 5 (pdl 5)) = true ∧ twOk 5 (rc (zW 5)) (rc (pw1 5 (pdl 5))) = true := by decide +kernel
theorem tw_6 : twOk 6 (zW 6) (pw1 6 (pdl 6)) = true ∧ twOk 6 (rc (zW 6)) (rc (pw1 6 (pdl 6))) = true := by decide +kernel
theorem tw_all {n : Nat} (h2 : 2 ≤ n) (h6 : n ≤ 6) : twOk n (zW n) (pw1 n (pdl n)) = true ∧ twOk n (rc (zW n)) (rc (pw1 n (pdl n))) = true := by
  have hn : n = 2 ∨ n = 3 ∨ n = 4 ∨ n = 5 ∨ n = 6 := by omega
  rcases hn with e | e | e | e | e <;> subst e
  · exact tw_2
  · exact tw_3
  · exact tw_4
  · exact tw_5
  · exact tw_6
theorem sub_conj {n : Nat} {z D : List Int} (h : twOk n z D = true) (hl : ((D ++ D).foldl stp (act0 n)).length = n) : ∀ (k : Nat) (W : List Int), W.length = k → ∃ V : List Int, V.length ≤ W.length ∧ sub ((D ++ D).foldl stp (act0 n)) W = gl (gl z V) (rc z) := by
  unfold twOk at h
  simp only [Bool.and_eq_true, decide_eq_true_eq, List.all_eq_true, List.mem_range] at h
  obtain ⟨hz, hx⟩ := h
  have hr : RedP z := by rw [← hz]; exact gl_red redP_nil z
  generalize (D ++ D).foldl stp (act0 n) = T at hx hl ⊢
  intro k
  induction k with
  | zero =>
    intro W hW
    obtain rfl := List.length_eq_zero_iff.1 hW
    refine ⟨[], Nat.le_refl _, ?_⟩
    show [] = gl z (rc z)
    have := gl_rc z redP_nil
    rw [hz] at this
    exact this.symm
  | succ k ih =>
    intro W hW
    obtain ⟨U, x, rfl⟩ : ∃ U x, W = U ++ [x] := ⟨W.dropLast, W.getLast (by intro e; rw [e] at hW; cases hW), (List.dropLast_concat_getLast _).symm⟩
    obtain ⟨V, hV, e⟩ := ih U (by simpa using hW)
    rw [sub_snoc, e]
    by_cases hg : 1 ≤ x.natAbs ∧ x.natAbs ≤ n
    · have hi : im T x = gl (gl z [x]) (rc z) := by
        have hh := hx (x.natAbs - 1) (by omega)
        rw [show x.natAbs - 1 + 1 = x.natAbs by omega] at hh
        by_cases hp : 0 < x
        · have e1 : ((x.natAbs : Nat) : Int) = x := by omega
          rw [e1] at hh
          exact hh.1
        · have e1 : -((x.natAbs : Nat) : Int) = x := by omega
          rw [e1] at hh
          exact hh.2
      refine ⟨V ++ [x], by simp only [List.length_append, List.length_cons, List.length_nil]; omega, ?_⟩
      have hA : RedP (gl z V) := gl_red hr V
      rw [hi, gl_assoc (gl_red hA _), gl_assoc (gl_red hA _), gl_rc' z hA, gl_app]
    · have hi : im T x = [] := by
        unfold im
        by_cases hp : 0 < x
        · rw [if_pos hp, getD_out T _ (by omega)]
        · rw [if_neg hp]
          by_cases hq : x < 0
          · rw [if_pos hq, getD_out T _ (by omega), rc_nil]
          · rw [if_neg hq]
      refine ⟨V, by simp only [List.length_append]; omega, ?_⟩
      rw [hi]
      rfl
/-- Delta's square ahead adds few letters. -/
theorem twice_len {n : Nat} (h6 : n ≤ 6) {z D : List Int} (h : twOk n z D = true) (hz : z.length = n) (hD : Vl n D) {v : List Int} {M : Nat} (i : Nat) (hv : ((v.foldl stp (act0 n)).getD i []).length ≤ M) : ((((D ++ D) ++ v).foldl stp (act0 n)).getD i []).length ≤ M + 12 := by
  have o := fold_ok (act0_red n) (hD.app hD)
  rw [List.foldl_append, fold_cmp o.1 o.2, cmp_at]
  obtain ⟨V, hV, e⟩ := sub_conj h o.2 _ ((v.foldl stp (act0 n)).getD i []) rfl
  rw [e]
  have h1 := gl_len (gl z V) (rc z)
  have h2 := gl_len z V
  rw [rc_lenN] at h1
  omega
/-- Each text behind each beginning is at most so long. -/
def BD (n M : Nat) (v : List Int) : Prop := ∀ s i, (((v.take s).foldl stp (act0 n)).getD i []).length ≤ M
theorem BD.up {n M M' : Nat} {v : List Int} (h : BD n M v) (hM : M ≤ M') : BD n M' v := fun s i => Nat.le_trans (h s i) hM
theorem len_act0 {n : Nat} (_ : n ≤ 6) : LenT (1, 6) (act0 n) := by
  have one : ∀ i, ((act0 n).getD i []).length ≤ 1 := fun i => by rw [act0_at]; split <;> simp
  refine ⟨one, ?_⟩
  have h0 := one 0
  have h1 := one 1
  have h2 := one 2
  have h3 := one 3
  have h4 := one 4
  have h5 := one 5
  unfold tot
  show _ ≤ 6
  omega
theorem BD.blocks {n : Nat} (h6 : n ≤ 6) {B : List (List Int)} (hB : ∀ v ∈ B, GoodB n v) {j : Nat} (hj : B.length ≤ j) : BD n (grws (1, 6) j).1 B.flatten := fun s i => (good_chain h6 B j s (act0_red n) (len_act0 h6) hB hj).one i
theorem BD.twice {n : Nat} (h6 : n ≤ 6) {z D : List Int} (h : twOk n z D = true) (hz : z.length = n) (hD : GoodB n D) {v : List Int} {M : Nat} (hM : 72 ≤ M) (hv : BD n M v) : BD n (M + 12) ((D ++ D) ++ v) := fun s i => by
  rw [List.take_append]
  by_cases hs : s ≤ (D ++ D).length
  · rw [Nat.sub_eq_zero_of_le hs, List.take_zero, List.append_nil]
    have hb : BD n 72 ([D, D].flatten) := BD.blocks h6 (j := 2) (fun v hv => by
      rcases List.mem_cons.1 hv with e | e
      · rw [e]; exact hD
      · rw [List.mem_singleton.1 e]; exact hD) (Nat.le_refl _)
    have := hb s i
    simp only [List.flatten_cons, List.flatten_nil, List.append_nil] at this
    omega
  · rw [List.take_of_length_le (by omega)]
    exact twice_len h6 h hz hD.vl i (hv _ i)
/-- The words of a row, one behind the other. -/
theorem wrd_flat (n : Nat) : ∀ F : List (List Nat), wrd n F = ((F.map (pw1 n)).reverse).flatten
  | [] => rfl
  | x :: F => by
    show wrd n F ++ pw1 n x = ((pw1 n x :: F.map (pw1 n)).reverse).flatten
    rw [wrd_flat n F, List.reverse_cons, List.flatten_append, List.flatten_cons, List.flatten_nil, List.append_nil]
theorem wrd_rc (n : Nat) : ∀ F : List (List Nat), rc (wrd n F) = (F.map fun x => rc (pw1 n x)).flatten
  | [] => rc_nil
  | x :: F => by
    show rc (wrd n F ++ pw1 n x) = rc (pw1 n x) ++ (F.map fun x => rc (pw1 n x)).flatten
    rw [rc_app, wrd_rc n F]
theorem good_wrd {n : Nat} (h2 : 2 ≤ n) (h6 : n ≤ 6) {F : List (List Nat)} (hF : AllP n F) : ∀ v ∈ (F.map (pw1 n)).reverse, GoodB n v := fun v hv => by
  obtain ⟨x, hx, rfl⟩ := List.mem_map.1 (List.mem_reverse.1 hv)
  exact good_pw h2 h6 (hF x hx)
theorem four_teen : (grws (1, 6) 14).1 = 5250678786216 := by decide +kernel
theorem six_right : (grws (54608393, 77227934) 6).1 = 5801565998704 := by decide +kernel
theorem left_pos {n : Nat} (h2 : 2 ≤ n) (h6 : n ≤ 6) {G : List (List Nat)} (hG : AllP n G) : ∀ m, G.length + min m 1 ≤ 14 → BD n (5250678786216 + 6 * m) (rep (pw1 n (pdl n)) m ++ wrd n G)
  | 0, h => by
    have := BD.blocks h6 (good_wrd h2 h6 hG) (j := 14) (by rw [List.length_reverse, List.length_map]; omega)
    rw [← wrd_flat, four_teen] at this
    exact this
  | 1, h => by
    have := BD.blocks h6 (B := pw1 n (pdl n) :: (G.map (pw1 n)).reverse) (fun v hv => by
      rcases List.mem_cons.1 hv with e | e
      · rw [e]; exact good_pw h2 h6 (isP_pdl n)
      · exact good_wrd h2 h6 hG v e) (j := 14) (by rw [List.length_cons, List.length_reverse, List.length_map]; omega)
    rw [List.flatten_cons, ← wrd_flat, four_teen] at this
    exact this.up (by omega)
  | m + 2, h => by
    have ih := left_pos h2 h6 hG m (by omega)
    rw [rep_cons, rep_cons, ← List.append_assoc, List.append_assoc]
    exact (ih.twice h6 (tw_all h2 h6).1 (by unfold zW; simp) (good_pw h2 h6 (isP_pdl n)) (by omega)).up (by omega)
theorem left_neg {n : Nat} (h2 : 2 ≤ n) (h6 : n ≤ 6) {G : List (List Nat)} (hG : AllP n G) (hl : G.length ≤ 14) : ∀ m, BD n (5250678786216 + 6 * m) (rep (rc (pw1 n (pdl n))) m ++ wrd n G)
  | 0 => by
    have := BD.blocks h6 (good_wrd h2 h6 hG) (j := 14) (by rw [List.length_reverse, List.length_map]; omega)
    rw [← wrd_flat, four_teen] at this
    exact this
  | 1 => by
    rcases List.eq_nil_or_concat G with e | ⟨G', p, e⟩
    · subst e
      have := BD.blocks h6 (B := [rc (pw1 n (pdl n))]) (fun v hv => by rw [List.mem_singleton.1 hv]; exact good_rc h2 h6 (isP_pdl n)) (j := 14) (by simp)
      rw [four_teen] at this
      exact this.up (by omega)
    · subst e
      rw [List.concat_eq_append] at hG hl ⊢
      have := BD.blocks h6 (B := (rc (pw1 n (pdl n)) ++ pw1 n p) :: (G'.map (pw1 n)).reverse) (fun v hv => by
        rcases List.mem_cons.1 hv with e | e
        · rw [e]; exact good_half h2 h6 (hG p (by simp))
        · exact good_wrd h2 h6 (fun z hz => hG z (by simp [hz])) v e) (j := 14) (by rw [List.length_cons, List.length_reverse, List.length_map]; simpa using hl)
      rw [List.flatten_cons, ← wrd_flat, four_teen] at this
      have e2 : rep (rc (pw1 n (pdl n))) 1 ++ wrd n (G' ++ [p]) = rc (pw1 n (pdl n)) ++ pw1 n p ++ wrd n G' := by
        rw [wrd_app]
        show rc (pw1 n (pdl n)) ++ (([] ++ pw1 n p) ++ wrd n G') = _
        rw [List.nil_append, List.append_assoc]
      rw [e2]
      exact this.up (by omega)
  | m + 2 => by
    have ih := left_neg h2 h6 hG hl m
    rw [rep_cons, rep_cons, ← List.append_assoc, List.append_assoc]
    exact (ih.twice h6 (tw_all h2 h6).2 (by rw [rc_lenN]; unfold zW; simp) (good_rc h2 h6 (isP_pdl n)) (by omega)).up (by omega)
theorem len_own {n : Nat} (h6 : n ≤ 6) {w : List Int} (hv : Vl n w) (hl : w.length ≤ 20) : LenT (54608393, 77227934) (w.foldl stp (act0 n)) := by
  have := act_lens n h6 w (fun x hx => by have := hv x hx; exact ⟨by have := this.1; omega, this.2⟩) hl
  rw [actT_all] at this
  exact ⟨this.1, this.2⟩
/-- ALONG THE NORMAL FORM'S WORD NO TEXT GROWS TOO LONG. -/
theorem nf_short {n : Nat} (h2 : 2 ≤ n) (h6 : n ≤ 6) {w : List Int} (hv : Vl n w) (hl : w.length ≤ 20) : BD n 5801565999000 (hw n (nfW n w).1 ++ wrd n (nfW n w).2) := by
  have hsm := nf_sm h2 h6 hv
  obtain ⟨b1, b2, b3⟩ := nf_bound n w
  have hP : AllP n (nfW n w).2 := (CanS.fold (canS_nil n 0) hv).all
  obtain ⟨k, hk⟩ : ∃ k, (nfW n w).1 = k := ⟨_, rfl⟩
  obtain ⟨F, hF⟩ : ∃ F, (nfW n w).2 = F := ⟨_, rfl⟩
  rw [hk, hF] at hsm ⊢
  rw [hk] at b1 b3
  rw [hF] at b2 b3 hP
  have h1 : AllP n (F.take 6) := fun z hz => hP z (List.mem_of_mem_take hz)
  have h3 : AllP n (F.drop 6) := fun z hz => hP z (List.mem_of_mem_drop hz)
  have hdl : (F.drop 6).length = F.length - 6 := List.length_drop
  have eF : wrd n F = wrd n (F.drop 6) ++ wrd n (F.take 6) := by rw [← wrd_app, List.take_append_drop]
  have hA : BD n 5801565999000 (hw n k ++ wrd n (F.drop 6)) := by
    unfold hw
    split
    · refine (left_pos h2 h6 h3 k.toNat ?_).up (by omega)
      omega
    · exact (left_neg h2 h6 h3 (by omega) (-k).toNat).up (by omega)
  have hAv : Vl n (hw n k ++ wrd n (F.drop 6)) := (vl_hw h2 h6 k).app (vl_wrd h2 h6 h3)
  have hXv : Vl n (wrd n (F.take 6)) := vl_wrd h2 h6 h1
  rw [eF, ← List.append_assoc] at hsm ⊢
  have hxr := wrd_rc n (F.take 6)
  generalize hw n k ++ wrd n (F.drop 6) = A at hA hAv hsm ⊢
  generalize wrd n (F.take 6) = X at hXv hsm hxr ⊢
  intro s i
  rw [List.take_append]
  by_cases hs : s ≤ A.length
  · rw [Nat.sub_eq_zero_of_le hs, List.take_zero, List.append_nil]
    exact hA s i
  · rw [List.take_of_length_le (by omega)]
    obtain ⟨r, hr⟩ : ∃ r, s - A.length = r := ⟨_, rfl⟩
    rw [hr]
    have hY : Vl n (X.drop r) := fun z hz => hXv z (List.mem_of_mem_drop hz)
    have hAX : Vl n (A ++ X.take r) := hAv.app (vl_take hXv r)
    have e1 : Sm n (w ++ rc (X.drop r)) (A ++ X.take r) := by
      refine (Sm.app hsm (Sm.refl n (rc (X.drop r))) (hAv.app hXv)).trans ?_
      have e2 : A ++ X ++ rc (X.drop r) = (A ++ X.take r) ++ (X.drop r ++ rc (X.drop r)) := by
        have e0 : A ++ X ++ rc (X.drop r) = A ++ (X.take r ++ X.drop r) ++ rc (X.drop r) := by rw [List.take_append_drop]
        rw [e0]
        simp only [List.append_assoc]
      rw [e2]
      have := Sm.app (Sm.refl n (A ++ X.take r)) (sm_rc hY) hAX
      rwa [List.append_nil] at this
    have e3 := e1 _ _ _ bact_act _ (act0_red n)
    rw [← e3, List.foldl_append]
    have e4 : rc (X.drop r) = (rc X).take (X.drop r).length := by
      conv => rhs; rw [← List.take_append_drop r X, rc_app]
      rw [List.take_append_drop, List.take_append, ← rc_lenN (X.drop r), Nat.sub_self, List.take_zero, List.append_nil, List.take_length]
    rw [e4, hxr]
    have := (good_chain h6 ((F.take 6).map fun x => rc (pw1 n x)) 6 (X.drop r).length (fold_ok (act0_red n) hv) (len_own h6 hv hl) (fun v hv => by
      obtain ⟨x, hx, rfl⟩ := List.mem_map.1 hv
      exact good_rc h2 h6 (h1 x hx)) (by rw [List.length_map, List.length_take]; omega)).one i
    rw [six_right] at this
    omega
end Go.Proofs.Ythlmkoiilgjflaa
