/- Several texts of the proof, one behind the other. -/
import Derived.Test.YthlmkoiilgjflaaGD2P
import Derived.Test.YthlmkoiilgjflaaGD2bP
/- Every word is one of fewer strands, one around, and the last strand's way: plain mathematics. -/
namespace Go.Proofs.Ythlmkoiilgjflaa

theorem okC_all {N : Nat} (h2 : 2 ≤ N) (h6 : N ≤ 6) : okC N = true := by
  have : N = 2 ∨ N = 3 ∨ N = 4 ∨ N = 5 ∨ N = 6 := by omega
  rcases this with rfl | rfl | rfl | rfl | rfl
  · exact okC_2
  · exact okC_3
  · exact okC_4
  · exact okC_5
  · exact okC_6
theorem okI_all {N : Nat} (h2 : 3 ≤ N) (h6 : N ≤ 6) : okI N = true := by
  have : N = 3 ∨ N = 4 ∨ N = 5 ∨ N = 6 := by omega
  rcases this with rfl | rfl | rfl | rfl
  · exact okI_3
  · exact okI_4
  · exact okI_5
  · exact okI_6
/-- Letters of n strands. -/
def Vl (n : Nat) (u : List Int) : Prop := ∀ z ∈ u, LtN n z
theorem Vl.nil (n : Nat) : Vl n [] := fun z hz => by cases hz
theorem Vl.app {n : Nat} {u v : List Int} (hu : Vl n u) (hv : Vl n v) : Vl n (u ++ v) := fun z hz => (List.mem_append.1 hz).elim (hu z) (hv z)
theorem Vl.one {n : Nat} {x : Int} (hx : LtN n x) : Vl n [x] := fun z hz => by rw [List.mem_singleton.1 hz]; exact hx
theorem Vl.rc {n : Nat} {u : List Int} (hu : Vl n u) : Vl n (rc u) := fun z hz => by
  rw [rc_is] at hz
  obtain ⟨y, hy, rfl⟩ := List.mem_map.1 (List.mem_reverse.1 hz)
  exact ltN_neg (hu y hy)
theorem Sm.refl (n : Nat) (u : List Int) : Sm n u u := fun _ _ _ _ _ _ => rfl
theorem Sm.symm {n : Nat} {u v : List Int} (h : Sm n u v) : Sm n v u := fun σ f ok hb S hS => (h σ f ok hb S hS).symm
theorem Sm.trans {n : Nat} {u v w : List Int} (h : Sm n u v) (k : Sm n v w) : Sm n u w := fun σ f ok hb S hS => (h σ f ok hb S hS).trans (k σ f ok hb S hS)
theorem Sm.app {n : Nat} {u u' v v' : List Int} (h : Sm n u u') (k : Sm n v v') (hu : Vl n u') : Sm n (u ++ v) (u' ++ v') := fun σ f ok hb S hS => by
  rw [List.foldl_append, List.foldl_append, h σ f ok hb S hS]
  exact k σ f ok hb _ (hb.fold hS hu)
theorem sm_rc {n : Nat} : ∀ {u : List Int}, Vl n u → Sm n (u ++ rc u) []
  | [], _ => Sm.refl n []
  | x :: u, hu => fun σ f ok hb S hS => by
    have hx := hu x (.head _)
    have hu' : Vl n u := fun z hz => hu z (.tail _ hz)
    have h1 := sm_rc hu' σ f ok hb (f S x) (hb.step S x hS hx)
    rw [rc_cons]
    show (u ++ (rc u ++ [-x])).foldl f (f S x) = S
    rw [← List.append_assoc, List.foldl_append, h1]
    exact hb.neg S x hS hx
theorem rc_app (u v : List Int) : rc (u ++ v) = rc v ++ rc u := by rw [rc_is, rc_is, rc_is, List.map_append, List.reverse_append]
theorem sm_rc' {n : Nat} {u : List Int} (hu : Vl n u) (h : Sm n u []) : Sm n (rc u) [] := by
  have h1 : Sm n (u ++ rc u) ([] ++ rc u) := h.app (Sm.refl n _) (Vl.nil n)
  exact h1.symm.trans (sm_rc hu)
theorem vl_cw {N k : Nat} (h1 : 1 ≤ k) : Vl N (cw N k) := fun z hz => by
  unfold cw at hz
  obtain ⟨i, hi, rfl⟩ := List.mem_map.1 hz
  have := List.mem_range.1 hi
  exact ⟨by omega, by omega⟩
theorem vl_aw1 {N : Nat} {x : Int} (hx : LtN N x) : Vl N (aw1 N x) := by
  unfold aw1
  refine ((vl_cw (by omega)).app ?_).app (vl_cw (by omega)).rc
  intro z hz
  simp only [List.mem_cons, List.not_mem_nil, or_false, or_self] at hz
  rw [hz]
  exact hx
theorem vl_aw {N : Nat} {l : List Int} (hl : Vl N l) : Vl N (awL N l) := fun z hz => by
  unfold awL at hz
  obtain ⟨x, hx, hz⟩ := List.mem_flatMap.1 hz
  exact vl_aw1 (hl x hx) z hz
theorem aw_app (N : Nat) (a b : List Int) : awL N (a ++ b) = awL N a ++ awL N b := by unfold awL; rw [List.flatMap_append]
theorem aw_cons (N : Nat) (x : Int) (b : List Int) : awL N (x :: b) = aw1 N x ++ awL N b := by unfold awL; rw [List.flatMap_cons]
theorem mem_lets {n : Nat} {x : Int} (h1 : 1 ≤ x.natAbs) (h2 : x.natAbs ≤ n) : x ∈ lets n := by
  unfold lets
  refine List.mem_flatMap.2 ⟨x.natAbs - 1, List.mem_range.2 (by omega), ?_⟩
  simp only [List.mem_cons, List.not_mem_nil, or_false]
  omega
theorem cmb_ok {N k : Nat} {x : Int} (hx : LtN N x) (hk1 : 1 ≤ k) (hk : k ≤ N) : ((cmb k x).1 = [] ∨ ∃ y, (cmb k x).1 = [y] ∧ LtN (N - 1) y) ∧ Vl N (cmb k x).2.1 ∧ 1 ≤ (cmb k x).2.2 ∧ (cmb k x).2.2 ≤ N := by
  have h1 := hx.1
  have h2 := hx.2
  unfold cmb
  split
  · refine ⟨Or.inr ⟨_, rfl, ?_⟩, Vl.nil N, hk1, hk⟩
    unfold LtN
    split <;> omega
  · split
    · split
      · exact ⟨Or.inl rfl, Vl.nil N, by show 1 ≤ k + 1; omega, by show k + 1 ≤ N; omega⟩
      · exact ⟨Or.inl rfl, Vl.one hx, by show 1 ≤ k + 1; omega, by show k + 1 ≤ N; omega⟩
    · split
      · split
        · exact ⟨Or.inl rfl, Vl.one hx, by show 1 ≤ k - 1; omega, by show k - 1 ≤ N; omega⟩
        · exact ⟨Or.inl rfl, Vl.nil N, by show 1 ≤ k - 1; omega, by show k - 1 ≤ N; omega⟩
      · exact ⟨Or.inr ⟨x, rfl, ⟨h1, by omega⟩⟩, Vl.nil N, hk1, hk⟩
theorem img1_ok {N : Nat} {y j : Int} (hy : LtN (N - 1) y) (hj : LtN N j) (hp : 0 < j) : Vl N (img1 y j) := by
  have h1 := hy.1
  have h2 := hy.2
  have h3 := hj.1
  have h4 := hj.2
  unfold img1
  intro z hz
  unfold LtN
  (repeat' split at hz) <;> simp only [List.mem_cons, List.not_mem_nil, or_false] at hz <;> omega
theorem img0_ok {N : Nat} {y x : Int} (hy : LtN (N - 1) y) (hx : LtN N x) : Vl N (img0 y x) := by
  unfold img0
  split
  · exact img1_ok hy hx (by assumption)
  · exact (img1_ok hy (ltN_neg hx) (by have := hx.1; omega)).rc
theorem img_ok {N : Nat} {y x : Int} (hy : LtN (N - 1) y) (hx : LtN N x) : Vl N (img y x) := fun z hz => by
  unfold img at hz
  obtain ⟨q, hq, rfl⟩ := List.mem_map.1 hz
  exact ltN_neg (img0_ok (ltN_neg hy) (ltN_neg hx) q hq)
theorem ltN_up {N : Nat} {y : Int} (h : LtN (N - 1) y) : LtN N y := ⟨h.1, by have := h.2; omega⟩
/-- A letter of fewer strands goes ahead of what is around. -/
theorem sm_img {N : Nat} (h2 : 2 ≤ N) (h6 : N ≤ 6) {y : Int} (hy : LtN (N - 1) y) : ∀ {α : List Int}, Vl N α → ∃ α', Vl N α' ∧ Sm N (awL N α ++ [y]) ([y] ++ awL N α')
  | [], _ => ⟨[], Vl.nil N, Sm.refl N _⟩
  | x :: α, hα => by
    have hx := hα x (.head _)
    have hα' : Vl N α := fun z hz => hα z (.tail _ hz)
    obtain ⟨γ, hγ, hs⟩ := sm_img h2 h6 hy hα'
    have hy1 := hy.1
    have hy2 := hy.2
    have hx1 := hx.1
    have hx2 := hx.2
    have hi := img_ok hy hx
    have h3 := List.all_eq_true.1 (List.all_eq_true.1 (okI_all (N := N) (by omega) h6) x (mem_lets hx1 (by omega))) y (mem_lets hy1 (by omega))
    have hone := Vl.one (ltN_up hy)
    have h4 : Sm N (aw1 N x ++ [y]) (y :: awL N (img y x)) := sm_of h2 ((vl_aw1 hx).app hone) (hone.app (vl_aw hi)) (of_decide_eq_true h3)
    refine ⟨img y x ++ γ, hi.app hγ, ?_⟩
    rw [aw_cons, aw_app, List.append_assoc]
    refine ((Sm.refl N (aw1 N x)).app hs (vl_aw1 hx)).trans ?_
    rw [← List.append_assoc, ← List.append_assoc]
    exact h4.app (Sm.refl N _) (hone.app (vl_aw hi))
/-- Combed. -/
theorem combed {N : Nat} (h2 : 2 ≤ N) (h6 : N ≤ 6) (w : List Int) (hw : Vl N w) : ∃ (hh α : List Int) (k : Nat), Vl (N - 1) hh ∧ Vl N α ∧ 1 ≤ k ∧ k ≤ N ∧ Sm N w (hh ++ awL N α ++ cw N k) := by
  have up : ∀ {u : List Int}, Vl (N - 1) u → Vl N u := fun hu z hz => ltN_up (hu z hz)
  have key : ∀ m, m ≤ w.length → ∃ (hh α : List Int) (k : Nat), Vl (N - 1) hh ∧ Vl N α ∧ 1 ≤ k ∧ k ≤ N ∧ Sm N (w.take m) (hh ++ awL N α ++ cw N k) := by
    intro m
    induction m with
    | zero =>
      intro _
      refine ⟨[], [], N, Vl.nil _, Vl.nil _, by omega, Nat.le_refl _, ?_⟩
      have e : cw N N = [] := by unfold cw; rw [Nat.sub_self]; rfl
      rw [e]
      exact Sm.refl N _
    | succ m ih =>
      intro hm
      obtain ⟨hh, α, k, a1, a2, a3, a4, a5⟩ := ih (by omega)
      have ht : w.take (m + 1) = w.take m ++ [w.getD m 0] := by
        rw [List.take_succ_eq_append_getElem (by omega), List.getD_eq_getElem?_getD, List.getElem?_eq_getElem (by omega)]
        rfl
      have hx : LtN N (w.getD m 0) := by
        rw [List.getD_eq_getElem?_getD, List.getElem?_eq_getElem (by omega)]
        exact hw _ (List.getElem_mem _)
      rw [ht]
      generalize w.getD m 0 = x at hx ⊢
      have hx1 := hx.1
      have hx2 := hx.2
      have b0 := List.all_eq_true.1 (List.all_eq_true.1 (okC_all h2 h6) (k - 1) (List.mem_range.2 (by omega))) x (mem_lets hx1 (by omega))
      rw [show k - 1 + 1 = k by omega] at b0
      obtain ⟨b1, b2, b3, b4⟩ := cmb_ok hx a3 a4
      have e1 := of_decide_eq_true b0
      generalize (cmb k x).1 = Y at b1 e1
      generalize (cmb k x).2.1 = B at b2 e1
      generalize (cmb k x).2.2 = k' at b3 b4 e1
      have vY : Vl N Y := by
        rcases b1 with rfl | ⟨y, rfl, hy⟩
        · exact Vl.nil N
        · exact Vl.one (ltN_up hy)
      have c1 : Sm N (cw N k ++ [x]) (Y ++ awL N B ++ cw N k') := sm_of h2 ((vl_cw a3).app (Vl.one hx)) ((vY.app (vl_aw b2)).app (vl_cw b3)) e1
      have vh := up a1
      have va := vl_aw a2
      have c2 : Sm N (w.take m ++ [x]) (hh ++ awL N α ++ (Y ++ awL N B ++ cw N k')) := by
        refine (a5.app (Sm.refl N [x]) ((vh.app va).app (vl_cw a3))).trans ?_
        rw [List.append_assoc (hh ++ awL N α)]
        exact (Sm.refl N _).app c1 (vh.app va)
      rcases b1 with rfl | ⟨y, rfl, hy⟩
      · refine ⟨hh, α ++ B, k', a1, a2.app b2, b3, b4, c2.trans ?_⟩
        rw [aw_app, List.nil_append]
        simp only [List.append_assoc]
        exact Sm.refl N _
      · obtain ⟨γ, g1, g2⟩ := sm_img h2 h6 hy a2
        refine ⟨hh ++ [y], γ ++ B, k', a1.app (Vl.one hy), g1.app b2, b3, b4, c2.trans ?_⟩
        have e3 : hh ++ awL N α ++ ([y] ++ awL N B ++ cw N k') = hh ++ (awL N α ++ [y]) ++ (awL N B ++ cw N k') := by simp only [List.append_assoc]
        have e4 : hh ++ [y] ++ awL N (γ ++ B) ++ cw N k' = hh ++ ([y] ++ awL N γ) ++ (awL N B ++ cw N k') := by rw [aw_app]; simp only [List.append_assoc]
        rw [e3, e4]
        exact ((Sm.refl N hh).app g2 vh).app (Sm.refl N _) (vh.app ((Vl.one (ltN_up hy)).app (vl_aw g1)))
  have := key w.length (Nat.le_refl _)
  rwa [List.take_length] at this
end Go.Proofs.Ythlmkoiilgjflaa
/- Texts put in for letters; a text that leaves the last letter where it is: plain mathematics. -/
namespace Go.Proofs.Ythlmkoiilgjflaa

/-- What stands for a letter. -/
def im (T : List (List Int)) (x : Int) : List Int := if 0 < x then T.getD (x.natAbs - 1) [] else if x < 0 then rc (T.getD (x.natAbs - 1) []) else []
/-- Texts put in. -/
def sub (T : List (List Int)) (W : List Int) : List Int := W.foldl (fun o x => gl o (im T x)) []
theorem rc_nil : rc [] = [] := by rw [rc_is]; rfl
theorem im_red {T : List (List Int)} (h : RedT T) (x : Int) : RedP (im T x) := by
  unfold im
  split
  · exact h _
  · split
    · exact rc_red (h _)
    · exact redP_nil
theorem im_neg (T : List (List Int)) (x : Int) : im T (-x) = rc (im T x) := by
  unfold im
  rw [Int.natAbs_neg]
  by_cases h1 : 0 < x
  · rw [if_neg (by omega), if_pos (by omega), if_pos h1]
  · by_cases h2 : x < 0
    · rw [if_pos (by omega), if_neg h1, if_pos h2, rc_rc]
    · rw [if_neg (by omega), if_neg (by omega), if_neg h1, if_neg h2, rc_nil]
theorem sub_snoc (T : List (List Int)) (W : List Int) (x : Int) : sub T (W ++ [x]) = gl (sub T W) (im T x) := by unfold sub; rw [List.foldl_append]; rfl
theorem sub_red {T : List (List Int)} (_ : RedT T) (W : List Int) : RedP (sub T W) := foldl_keeps (fun o x => gl o (im T x)) RedP (fun _ _ ho => gl_red ho _) W [] redP_nil
theorem sub_app {T : List (List Int)} (h : RedT T) (A : List Int) : ∀ k (B : List Int), B.length ≤ k → sub T (A ++ B) = gl (sub T A) (sub T B)
  | 0, B, hk => by
    obtain rfl : B = [] := List.length_eq_zero_iff.1 (by omega)
    rw [List.append_nil]
    rfl
  | k + 1, B, hk => by
    by_cases hB : B.length = 0
    · obtain rfl : B = [] := List.length_eq_zero_iff.1 hB
      rw [List.append_nil]
      rfl
    · have e := snoc_of (o := B) (by omega)
      rw [e, ← List.append_assoc, sub_snoc, sub_snoc, sub_app h A k _ (by rw [List.length_take]; omega), gl_assoc (sub_red h A)]
theorem sub_one {T : List (List Int)} (h : RedT T) (x : Int) : sub T [x] = im T x := gl_own (im_red h x)
theorem sub_push {T : List (List Int)} (h : RedT T) (o : List Int) (x : Int) : sub T (push o x) = gl (sub T o) (im T x) := by
  by_cases hc : 0 < o.length ∧ o.getD (o.length - 1) 0 = -x
  · have e1 : push o x = o.take (o.length - 1) := by unfold push; rw [if_pos hc]
    have e2 := snoc_of hc.1
    rw [hc.2] at e2
    rw [e1]
    conv => rhs; rw [e2, sub_snoc, im_neg, gl_rc' _ (sub_red h _)]
  · have e1 : push o x = o ++ [x] := by unfold push; rw [if_neg hc]
    rw [e1, sub_snoc]
theorem sub_gl {T : List (List Int)} (h : RedT T) (A B : List Int) : sub T (gl A B) = gl (sub T A) (sub T B) := by
  have key : ∀ k, k ≤ B.length → sub T (gl A (B.take k)) = gl (sub T A) (sub T (B.take k)) := by
    intro k
    induction k with
    | zero => intro _; rfl
    | succ k ih =>
      intro hk
      have e : B.take (k + 1) = B.take k ++ [B.getD k 0] := by
        rw [List.take_succ_eq_append_getElem (by omega), List.getD_eq_getElem?_getD, List.getElem?_eq_getElem (by omega)]
        rfl
      rw [gl_take _ _ _ (by omega), sub_push h, ih (by omega), e, sub_snoc, gl_assoc (sub_red h A)]
  have := key B.length (Nat.le_refl _)
  rwa [List.take_length] at this
theorem sub_rc {T : List (List Int)} (h : RedT T) : ∀ (A : List Int), sub T (rc A) = rc (sub T A)
  | [] => by rw [rc_nil]; exact rc_nil.symm
  | x :: A => by
    rw [rc_cons, sub_snoc, sub_rc h A, im_neg, show x :: A = [x] ++ A from rfl, sub_app h [x] A.length A (Nat.le_refl _), sub_one h, rc_gl (im_red h x) (sub_red h A)]
/-- Texts put in for the letters of texts. -/
def cmpT' (T U : List (List Int)) : List (List Int) := U.map (sub T)
theorem cmp_at (T U : List (List Int)) (j : Nat) : (cmpT' T U).getD j [] = sub T (U.getD j []) := by
  unfold cmpT'
  rw [List.getD_eq_getElem?_getD, List.getElem?_map, List.getD_eq_getElem?_getD]
  cases U[j]? with
  | none => rfl
  | some r => rfl
theorem cmp_stp {T : List (List Int)} (h : RedT T) (U : List (List Int)) (x : Int) : stp (cmpT' T U) x = cmpT' T (stp U x) := by
  unfold stp
  split
  · rw [cmp_at, cmp_at, ← sub_rc h, ← sub_gl h, ← sub_gl h]
    unfold cmpT'
    rw [List.map_set, List.map_set]
  · rw [cmp_at, cmp_at, ← sub_rc h, ← sub_gl h, ← sub_gl h]
    unfold cmpT'
    rw [List.map_set, List.map_set]
theorem cmp_fold {T : List (List Int)} (h : RedT T) : ∀ (w : List Int) (U : List (List Int)), w.foldl stp (cmpT' T U) = cmpT' T (w.foldl stp U)
  | [], _ => rfl
  | x :: w, U => by
    show w.foldl stp (stp (cmpT' T U) x) = _
    rw [cmp_stp h, cmp_fold h w]
    rfl
theorem cmp_act0 {T : List (List Int)} (h : RedT T) : cmpT' T (act0 T.length) = T := by
  refine listL_ext (by unfold cmpT' act0; simp) fun j hj => ?_
  have hj2 : j < T.length := by unfold cmpT' act0 at hj; simpa using hj
  rw [cmp_at, act0_at, if_pos hj2, sub_one h]
  unfold im
  rw [if_pos (by omega)]
  congr 1
/-- What a word does to any texts. -/
theorem fold_cmp {n : Nat} {T : List (List Int)} (h : RedT T) (hl : T.length = n) (w : List Int) : w.foldl stp T = cmpT' T (w.foldl stp (act0 n)) := by
  rw [← cmp_fold h, ← hl, cmp_act0 h]

/-- Without the last letter. -/
def rho (N : Nat) (W : List Int) : List Int := gl [] (W.filter fun z => decide (z.natAbs ≠ N))
theorem rho_red (N : Nat) (W : List Int) : RedP (rho N W) := gl_red redP_nil _
theorem rho_snoc (N : Nat) (W : List Int) (x : Int) : rho N (W ++ [x]) = if x.natAbs ≠ N then push (rho N W) x else rho N W := by
  unfold rho
  rw [List.filter_append]
  by_cases h : x.natAbs ≠ N
  · rw [if_pos h, List.filter_cons_of_pos (by simpa using h), List.filter_nil, gl_snoc]
  · rw [if_neg h, List.filter_cons_of_neg (by simpa using h), List.filter_nil, List.append_nil]
theorem rho_push (N : Nat) (W : List Int) (x : Int) : rho N (push W x) = if x.natAbs ≠ N then push (rho N W) x else rho N W := by
  by_cases hc : 0 < W.length ∧ W.getD (W.length - 1) 0 = -x
  · have e1 : push W x = W.take (W.length - 1) := by unfold push; rw [if_pos hc]
    have e2 := snoc_of hc.1
    rw [hc.2] at e2
    rw [e1]
    conv => rhs; rw [e2, rho_snoc, Int.natAbs_neg]
    by_cases h : x.natAbs ≠ N
    · rw [if_pos h, if_pos h]
      have := push_push (rho_red N (W.take (W.length - 1))) (-x)
      rw [Int.neg_neg] at this
      exact this.symm
    · rw [if_neg h, if_neg h]
  · have e1 : push W x = W ++ [x] := by unfold push; rw [if_neg hc]
    rw [e1, rho_snoc]
theorem rho_gl (N : Nat) (A B : List Int) : rho N (gl A B) = gl (rho N A) (rho N B) := by
  have key : ∀ k, k ≤ B.length → rho N (gl A (B.take k)) = gl (rho N A) (rho N (B.take k)) := by
    intro k
    induction k with
    | zero => intro _; rfl
    | succ k ih =>
      intro hk
      have e : B.take (k + 1) = B.take k ++ [B.getD k 0] := by
        rw [List.take_succ_eq_append_getElem (by omega), List.getD_eq_getElem?_getD, List.getElem?_eq_getElem (by omega)]
        rfl
      rw [gl_take _ _ _ (by omega), rho_push, ih (by omega), e, rho_snoc]
      split
      · rw [gl_push (rho_red N A)]
      · rfl
  have := key B.length (Nat.le_refl _)
  rwa [List.take_length] at this
theorem rho_rc (N : Nat) : ∀ (A : List Int), rho N (rc A) = rc (rho N A)
  | [] => by rw [rc_nil]; exact rc_nil.symm
  | x :: A => by
    have e1 : rho N (x :: A) = gl (rho N [x]) (rho N A) := by
      have h1 : gl [] (x :: A) = gl [x] A := by
        show gl (push [] x) A = _
        rfl
      have h2 := rho_gl N [x] A
      rw [← h1] at h2
      have h3 : rho N (gl [] (x :: A)) = gl (rho N []) (rho N (x :: A)) := rho_gl N [] (x :: A)
      rw [show rho N [] = [] from rfl, gl_own (rho_red N _)] at h3
      rw [← h3, h2]
    rw [rc_cons, rho_snoc, rho_rc N A, e1, rc_gl (rho_red N _) (rho_red N _), Int.natAbs_neg]
    by_cases h : x.natAbs ≠ N
    · rw [if_pos h]
      have e2 : rho N [x] = [x] := by unfold rho; rw [List.filter_cons_of_pos (by simpa using h)]; rfl
      rw [e2]
      show push _ _ = gl _ (rc [x])
      rw [rc_cons, rc_nil]
      rfl
    · rw [if_neg h]
      have e2 : rho N [x] = [] := by unfold rho; rw [List.filter_cons_of_neg (by simpa using h)]; rfl
      rw [e2, rc_nil]
      rfl
/-- What goes past the last letter is made of it alone. -/
theorem past_last {N : Nat} (hN : 1 ≤ N) : ∀ k (V : List Int), V.length ≤ k → RedP V → gl (gl V [(N : Int)]) (rc V) = [(N : Int)] → rho N V = []
  | 0, V, hk, _, _ => by
    obtain rfl : V = [] := List.length_eq_zero_iff.1 (by omega)
    rfl
  | k + 1, V, hk, hV, h => by
    by_cases h0 : V.length = 0
    · obtain rfl : V = [] := List.length_eq_zero_iff.1 h0
      rfl
    · have e := snoc_of (o := V) (by omega)
      generalize V.getD (V.length - 1) 0 = y at e
      generalize hV1 : V.take (V.length - 1) = V1 at e
      have hl : V1.length ≤ k := by rw [← hV1, List.length_take]; omega
      have hr1 : RedP V1 := by
        intro i hi
        have := hV i (by rw [e, List.length_append]; omega)
        rw [e, getD_snoc, getD_snoc, if_pos (by omega), if_pos hi] at this
        exact this
      by_cases hy : y.natAbs = N
      · have e2 : rho N V = rho N V1 := by rw [e, rho_snoc, if_neg (by simpa using hy)]
        rw [e2]
        refine past_last hN k V1 hl hr1 ?_
        have hy2 : y = (N : Int) ∨ y = -(N : Int) := by omega
        have e3 : gl V1 [(N : Int)] = gl (gl (gl V1 [y]) [(N : Int)]) [-y] := by
          show push V1 _ = push (push (push V1 y) _) (-y)
          rcases hy2 with rfl | rfl
          · rw [push_push (push_red hr1 _)]
          · rw [show push (push V1 (-(N : Int))) (N : Int) = V1 by have := push_push hr1 (-(N : Int)); rwa [Int.neg_neg] at this, Int.neg_neg]
        have e4 : rc [y] = [-y] := by rw [rc_cons, rc_nil]; rfl
        have e5 : V1 ++ [y] = gl V1 [y] := by
          have : V1 ++ [y] = V := e.symm
          have h6 := gl_own hV
          rw [e, gl_snoc, gl_own hr1] at h6
          exact h6.symm
        rw [e, rc_app, e4, e5, gl_app] at h
        rw [e3]
        exact h
      · exfalso
        have hyN : y ≠ -(N : Int) := fun q => hy (by omega)
        have e6 : gl V [(N : Int)] = V ++ [(N : Int)] := by
          show push V _ = _
          unfold push
          rw [if_neg]
          rintro ⟨-, q⟩
          rw [e, last_snoc] at q
          exact hyN q
        have hred : RedP (V ++ [(N : Int)] ++ rc V) := by
          intro i hi
          rw [List.append_assoc] at hi ⊢
          have g1 : ∀ t, t < V.length → (V ++ ([(N : Int)] ++ rc V)).getD t 0 = V.getD t 0 := fun t ht => by rw [List.getD_eq_getElem?_getD, List.getElem?_append_left ht, ← List.getD_eq_getElem?_getD]
          have g2 : (V ++ ([(N : Int)] ++ rc V)).getD V.length 0 = (N : Int) := by rw [List.getD_eq_getElem?_getD, List.getElem?_append_right (Nat.le_refl _), Nat.sub_self]; rfl
          have g3 : ∀ t, V.length < t → (V ++ ([(N : Int)] ++ rc V)).getD t 0 = (rc V).getD (t - V.length - 1) 0 := fun t ht => by
            rw [List.getD_eq_getElem?_getD, List.getElem?_append_right (by omega), List.getElem?_append_right (by simp; omega), ← List.getD_eq_getElem?_getD]
            rfl
          have hlast : V.getD (V.length - 1) 0 = y := by
            have := last_snoc V1 y
            rw [← e] at this
            exact this
          rcases Nat.lt_trichotomy (i + 1) V.length with q | q | q
          · rw [g1 i (by omega), g1 (i + 1) q]; exact hV i q
          · rw [g1 i (by omega), q, g2, show i = V.length - 1 by omega, hlast]; exact hyN
          · by_cases q2 : i = V.length
            · rw [q2, g2, g3 _ (by omega), show V.length + 1 - V.length - 1 = 0 by omega, rc_at _ _ (by omega), Nat.sub_zero, hlast]
              intro q3
              exact hy (by omega)
            · rw [g3 i (by omega), g3 (i + 1) (by omega), show i + 1 - V.length - 1 = i - V.length - 1 + 1 by omega]
              exact rc_red hV _ (by simp only [List.length_append, List.length_singleton, rc_len] at hi ⊢; omega)
        have e7 : gl (V ++ [(N : Int)]) (rc V) = V ++ [(N : Int)] ++ rc V := by
          have h8 : RedP (V ++ [(N : Int)]) := by rw [← e6]; exact gl_red hV _
          have h9 := gl_own hred
          rw [gl_app, gl_own h8] at h9
          exact h9
        rw [e6, e7] at h
        have := congrArg List.length h
        simp only [List.length_append, List.length_singleton, rc_len] at this
        omega
end Go.Proofs.Ythlmkoiilgjflaa
