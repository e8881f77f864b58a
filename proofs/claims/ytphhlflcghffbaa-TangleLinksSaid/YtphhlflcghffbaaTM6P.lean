/- Several texts of the proof, one behind the other. -/
import Derived.Test.YtphhlflcghffbaaTM5
import Derived.Test.YtphhlflcghffbaaTL14
import Derived.Test.YtphhlflcghffbaaTL13
/- Plain mathematics: the pairs of the reference and the ties of the program tell the same. -/
namespace Go.Proofs.Ytphhlflcghffbaa

theorem hasX_app (P : List (Nat × Nat)) (a b x : Nat) : hasX (P ++ [(a, b)]) x ↔ hasX P x ∨ a = x ∨ b = x := by
  unfold hasX
  constructor
  · rintro ⟨p, hp, hx⟩
    rcases List.mem_append.1 hp with h | h
    · exact Or.inl ⟨p, h, hx⟩
    · rw [List.mem_singleton.1 h] at hx
      exact Or.inr hx
  · rintro (⟨p, hp, hx⟩ | h)
    · exact ⟨p, List.mem_append_left _ hp, hx⟩
    · exact ⟨(a, b), by simp, h⟩
theorem mt_has : ∀ (P : List (Nat × Nat)) (a b x : Nat), hasX P x → mt (P ++ [(a, b)]) x = mt P x
  | [], a, b, x, h => by obtain ⟨p, hp, -⟩ := h; simp at hp
  | p :: t, a, b, x, h => by
    show (if p.1 = x then p.2 else if p.2 = x then p.1 else mt (t ++ [(a, b)]) x) = (if p.1 = x then p.2 else if p.2 = x then p.1 else mt t x)
    by_cases h1 : p.1 = x
    · rw [if_pos h1, if_pos h1]
    · rw [if_neg h1, if_neg h1]
      by_cases h2 : p.2 = x
      · rw [if_pos h2, if_pos h2]
      · rw [if_neg h2, if_neg h2]
        refine mt_has t a b x ?_
        obtain ⟨q, hq, hx⟩ := h
        rcases List.mem_cons.1 hq with rfl | hq
        · exact absurd hx (fun h => h.elim h1 h2)
        · exact ⟨q, hq, hx⟩
theorem mt_no : ∀ (P : List (Nat × Nat)) (a b x : Nat), ¬ hasX P x → mt (P ++ [(a, b)]) x = if a = x then b else if b = x then a else x
  | [], a, b, x, _ => rfl
  | p :: t, a, b, x, h => by
    have h1 : ¬ p.1 = x := fun e => h ⟨p, by simp, Or.inl e⟩
    have h2 : ¬ p.2 = x := fun e => h ⟨p, by simp, Or.inr e⟩
    show (if p.1 = x then p.2 else if p.2 = x then p.1 else mt (t ++ [(a, b)]) x) = _
    rw [if_neg h1, if_neg h2]
    exact mt_no t a b x fun ⟨q, hq, hx⟩ => h ⟨q, by simp [hq], hx⟩
theorem mt_out : ∀ (P : List (Nat × Nat)) (x : Nat), ¬ hasX P x → mt P x = x
  | [], _, _ => rfl
  | p :: t, x, h => by
    have h1 : ¬ p.1 = x := fun e => h ⟨p, by simp, Or.inl e⟩
    have h2 : ¬ p.2 = x := fun e => h ⟨p, by simp, Or.inr e⟩
    show (if p.1 = x then p.2 else if p.2 = x then p.1 else mt t x) = _
    rw [if_neg h1, if_neg h2]
    exact mt_out t x fun ⟨q, hq, hx⟩ => h ⟨q, by simp [hq], hx⟩
theorem xr_lt (k : Nat) : xr k < 4 := by unfold xr; (repeat' split) <;> omega
theorem xr_xr {k : Nat} (h : k < 4) : xr (xr k) = k := by
  have : k = 0 ∨ k = 1 ∨ k = 2 ∨ k = 3 := by omega
  rcases this with rfl | rfl | rfl | rfl <;> rfl
theorem xr_ne {k : Nat} (h : k < 4) : xr k ≠ k := by
  have : k = 0 ∨ k = 1 ∨ k = 2 ∨ k = 3 := by omega
  rcases this with rfl | rfl | rfl | rfl <;> decide
/-- The partner of x in the last pair that holds it. -/
def lmS (x acc : Nat) (p : Nat × Nat) : Nat := if p.2 = x then p.1 else if p.1 = x then p.2 else acc
def lmF (P : List (Nat × Nat)) (x : Nat) : Nat := P.foldl (lmS x) x
theorem lmF_app (P : List (Nat × Nat)) (a b x : Nat) : lmF (P ++ [(a, b)]) x = lmS x (lmF P x) (a, b) := by simp [lmF]
theorem lm_app {P : List (Nat × Nat)} {a b : Nat} (ha : ¬ hasX P a) (hb : ¬ hasX P b) (hab : a ≠ b) (h : ∀ x, lmF P x = mt P x) (x : Nat) : lmF (P ++ [(a, b)]) x = mt (P ++ [(a, b)]) x := by
  rw [lmF_app, h x]
  show (if b = x then a else if a = x then b else mt P x) = _
  by_cases h1 : b = x
  · subst h1
    rw [if_pos rfl, mt_no P _ _ _ hb, if_neg hab, if_pos rfl]
  · rw [if_neg h1]
    by_cases h2 : a = x
    · subst h2
      rw [if_pos rfl, mt_no P _ _ _ ha, if_pos rfl]
    · rw [if_neg h2]
      by_cases h3 : hasX P x
      · rw [mt_has P _ _ _ h3]
      · rw [mt_no P _ _ _ h3, if_neg h2, if_neg h1]
        exact mt_out P x h3
/-- What holds of pairs P, ends e and ties T under way. -/
structure Iv (D : Nat → Prop) (T : Nat → Nat) (P : List (Nat × Nat)) (e : Nat → Nat) : Prop where
  iv : Invo D T
  d4 : ∀ x, x < 4 → D x
  e1 : ∀ X, X < 4 → e X = X ∨ 4 ≤ e X
  eD : ∀ X, X < 4 → D (e X)
  en : ∀ X, X < 4 → ¬ hasX P (e X)
  ei : ∀ X Y, X < 4 → Y < 4 → e X = e Y → X = Y
  cov : ∀ x, D x → hasX P x ∨ ∃ X, X < 4 ∧ x = e X
  pD : ∀ x, hasX P x → D x ∧ D (mt P x) ∧ hasX P (mt P x) ∧ mt P (mt P x) = x
  pi : ∀ j, j < 4 → hasX P j → 4 ≤ mt P j
  t1 : ∀ X, X < 4 → 4 ≤ e X → T (e X) = X
  t2 : ∀ x, 4 ≤ x → hasX P x → 4 ≤ mt P x → T x = mt P x
  t3 : ∀ x, 4 ≤ x → hasX P x → mt P x < 4 → T x = (if e (xr (mt P x)) = xr (mt P x) then xr (mt P x) else mt P (xr (mt P x)))
  t4 : ∀ X, X < 4 → 4 ≤ e X → T X = e X
  t5 : ∀ X, X < 4 → e X = X → T X = (if e (xr X) = xr X then xr X else mt P (xr X))
  lm : ∀ x, lmF P x = mt P x
theorem Iv.inner {D : Nat → Prop} {T : Nat → Nat} {P : List (Nat × Nat)} {e : Nat → Nat} (h : Iv D T P e) {k : Nat} (hk : k < 4) (hne : e k ≠ k) : hasX P k := by
  rcases h.cov k (h.d4 k hk) with h1 | ⟨Y, hY, e1⟩
  · exact h1
  · rcases h.e1 Y hY with h2 | h2
    · exact absurd (by rw [show k = Y from e1.trans h2]; exact h2) hne
    · omega
/-- End X moved to o. -/
def eW (e : Nat → Nat) (X o : Nat) : Nat → Nat := fun Y => if Y = X then o else e Y
theorem Iv.half {D : Nat → Prop} {T : Nat → Nat} {P : List (Nat × Nat)} {e : Nat → Nat} (h : Iv D T P e) {X i o : Nat} (hX : X < 4) (hi : ¬ D i) (ho : ¬ D o) (hio : i ≠ o) (hi4 : 4 ≤ i) (ho4 : 4 ≤ o) :
    Iv (fun x => x = i ∨ x = o ∨ D x) (leadF T X i o) (P ++ [(e X, i)]) (eW e X o) := by
  have hDX := h.d4 X hX
  have hTX := h.iv.sp X hDX
  have v : ∀ x, leadF T X i o x = if x = o then X else if x = X then o else if x = i then T X else if x = T X then i else T x := fun x => rfl
  have nD : ∀ x, D x → x ≠ i ∧ x ≠ o := fun x hx => ⟨fun e => hi (e ▸ hx), fun e => ho (e ▸ hx)⟩
  have vx : ∀ x, D x → x ≠ X → x ≠ T X → leadF T X i o x = T x := fun x hx h1 h2 => by rw [v, if_neg (nD x hx).2, if_neg h1, if_neg (nD x hx).1, if_neg h2]
  have vt : leadF T X i o (T X) = i := by rw [v, if_neg (nD _ hTX).2, if_neg (h.iv.ne X hDX), if_neg (nD _ hTX).1, if_pos rfl]
  have vi : leadF T X i o i = T X := by rw [v, if_neg hio, if_neg (fun e => (nD X hDX).1 e.symm), if_pos rfl]
  have vo : leadF T X i o o = X := by rw [v, if_pos rfl]
  have vX : leadF T X i o X = o := by rw [v, if_neg (nD X hDX).2, if_pos rfl]
  have TT : ∀ x, D x → x = T X → T x = X := fun x hx e => by rw [e, h.iv.inv X hDX]
  have hz := h.en X hX
  have hzD := h.eD X hX
  have hPi : ¬ hasX P i := fun hh => hi (h.pD i hh).1
  have hPo : ¬ hasX P o := fun hh => ho (h.pD o hh).1
  have mz : mt (P ++ [(e X, i)]) (e X) = i := by rw [mt_no P _ _ _ hz, if_pos rfl]
  have mi : mt (P ++ [(e X, i)]) i = e X := by rw [mt_no P _ _ _ hPi, if_neg (nD _ hzD).1, if_pos rfl]
  have mx : ∀ x, hasX P x → mt (P ++ [(e X, i)]) x = mt P x := fun x hx => mt_has P _ _ x hx
  have hx' : ∀ x, hasX (P ++ [(e X, i)]) x ↔ hasX P x ∨ e X = x ∨ i = x := fun x => hasX_app P _ _ x
  have eo : ∀ Y, Y ≠ X → eW e X o Y = e Y := fun Y hY => if_neg hY
  have eX : eW e X o X = o := if_pos rfl
  have nX : ∀ x, D x → 4 ≤ x → x ≠ X := fun x _ h4 e => by omega
  refine ⟨leadF_invo h.iv hDX hi ho hio, fun x hx => Or.inr (Or.inr (h.d4 x hx)), fun Y hY => ?_, fun Y hY => ?_, fun Y hY => ?_, fun Y Z hY hZ he => ?_, fun x hx => ?_, fun x hx => ?_, fun j hj hx => ?_, fun Y hY h4 => ?_, fun x h4 hx hm => ?_, fun x h4 hx hm => ?_, fun Y hY h4 => ?_, fun Y hY he => ?_, lm_app hz hPi (nD _ hzD).1 h.lm⟩
  · by_cases q : Y = X
    · exact Or.inr (by rw [q, eX]; exact ho4)
    · rw [eo Y q]; exact h.e1 Y hY
  · by_cases q : Y = X
    · rw [q, eX]; exact Or.inr (Or.inl rfl)
    · rw [eo Y q]; exact Or.inr (Or.inr (h.eD Y hY))
  · intro hh
    by_cases q : Y = X
    · rw [q, eX] at hh
      rcases (hx' o).1 hh with h1 | h1 | h1
      · exact hPo h1
      · exact (nD _ hzD).2 h1
      · exact hio h1
    · rw [eo Y q] at hh
      rcases (hx' _).1 hh with h1 | h1 | h1
      · exact h.en Y hY h1
      · exact q (h.ei Y X hY hX h1.symm)
      · exact (nD _ (h.eD Y hY)).1 h1.symm
  · by_cases q : Y = X <;> by_cases q2 : Z = X
    · rw [q, q2]
    · rw [q, eX, eo Z q2] at he
      exact absurd he.symm (nD _ (h.eD Z hZ)).2
    · rw [q2, eX, eo Y q] at he
      exact absurd he (nD _ (h.eD Y hY)).2
    · rw [eo Y q, eo Z q2] at he
      exact h.ei Y Z hY hZ he
  · rcases hx with rfl | rfl | hx
    · exact Or.inl ((hx' _).2 (Or.inr (Or.inr rfl)))
    · exact Or.inr ⟨X, hX, eX.symm⟩
    · rcases h.cov x hx with h1 | ⟨Y, hY, rfl⟩
      · exact Or.inl ((hx' _).2 (Or.inl h1))
      · by_cases q : Y = X
        · exact Or.inl ((hx' _).2 (Or.inr (Or.inl (by rw [q]))))
        · exact Or.inr ⟨Y, hY, (eo Y q).symm⟩
  · rcases (hx' x).1 hx with h1 | h1 | h1
    · obtain ⟨a1, a2, a3, a4⟩ := h.pD x h1
      rw [mx x h1, mx _ a3]
      exact ⟨Or.inr (Or.inr a1), Or.inr (Or.inr a2), (hx' _).2 (Or.inl a3), a4⟩
    · rw [← h1, mz, mi]
      exact ⟨Or.inr (Or.inr hzD), Or.inl rfl, (hx' _).2 (Or.inr (Or.inr rfl)), rfl⟩
    · rw [← h1, mi, mz]
      exact ⟨Or.inl rfl, Or.inr (Or.inr hzD), (hx' _).2 (Or.inr (Or.inl rfl)), rfl⟩
  · rcases (hx' j).1 hx with h1 | h1 | h1
    · rw [mx j h1]; exact h.pi j hj h1
    · rw [← h1, mz]; exact hi4
    · omega
  · by_cases q : Y = X
    · rw [q, eX, vo]
    · rw [eo Y q] at h4 ⊢
      rw [vx _ (h.eD Y hY) (nX _ (h.eD Y hY) h4) (fun e2 => q ?_), h.t1 Y hY h4]
      have := TT _ (h.eD Y hY) e2
      rw [h.t1 Y hY h4] at this
      exact this
  · rcases (hx' x).1 hx with h1 | h1 | h1
    · rw [mx x h1] at hm ⊢
      have ht := h.t2 x h4 h1 hm
      have hxD := (h.pD x h1).1
      rw [vx x hxD (nX x hxD h4) (fun e2 => ?_), ht]
      have := TT x hxD e2
      omega
    · subst h1
      rw [mz]
      have ht := h.t1 X hX h4
      have e2 : e X = T X := by rw [h.t4 X hX h4]
      rw [e2, vt]
    · subst h1
      rw [mi] at hm ⊢
      rw [vi, h.t4 X hX hm]
  · rcases (hx' x).1 hx with h1 | h1 | h1
    · rw [mx x h1] at hm ⊢
      obtain ⟨a1, -, -, -⟩ := h.pD x h1
      have ht := h.t3 x h4 h1 hm
      generalize mt P x = j at hm ht ⊢
      have hk := xr_lt j
      generalize xr j = k at hk ht ⊢
      by_cases q : k = X
      · subst q
        rw [eX, if_neg (by omega)]
        by_cases q2 : e k = k
        · rw [if_pos q2] at ht
          have e2 : x = T k := by rw [← ht, h.iv.inv x a1]
          rw [e2, vt]
          have := mz
          rw [q2] at this
          exact (show mt (P ++ [(e k, i)]) k = i by rw [q2]; exact this).symm
        · rw [if_neg q2] at ht
          have hk2 := h.inner hX q2
          have := h.pi k hX hk2
          rw [mx k hk2, vx x a1 (nX x a1 h4) (fun e2 => ?_), ht]
          have := TT x a1 e2
          omega
      · rw [eo k q]
        by_cases q2 : e k = k
        · rw [if_pos q2] at ht ⊢
          rw [vx x a1 (nX x a1 h4) (fun e2 => ?_), ht]
          have := TT x a1 e2
          omega
        · rw [if_neg q2] at ht ⊢
          have hk2 := h.inner hk q2
          have := h.pi k hk hk2
          rw [mx k hk2, vx x a1 (nX x a1 h4) (fun e2 => ?_), ht]
          have := TT x a1 e2
          omega
    · subst h1
      rw [mz] at hm
      omega
    · subst h1
      rw [mi] at hm ⊢
      have e2 : e X = X := (h.e1 X hX).resolve_right (by omega)
      rw [e2, vi, h.t5 X hX e2]
      have hk := xr_lt X
      have hn := xr_ne hX
      generalize xr X = k at hk hn ⊢
      rw [eo k hn]
      by_cases q2 : e k = k
      · rw [if_pos q2, if_pos q2]
      · rw [if_neg q2, if_neg q2, mt_has P _ _ k (h.inner hk q2)]
  · by_cases q : Y = X
    · rw [q, eX, vX]
    · rw [eo Y q] at h4 ⊢
      have ht := h.t4 Y hY h4
      rw [vx Y (h.d4 Y hY) q (fun e2 => ?_), ht]
      have := TT Y (h.d4 Y hY) e2
      omega
  · by_cases q : Y = X
    · rw [q, eX] at he
      omega
    · rw [eo Y q] at he
      have ht := h.t5 Y hY he
      have hk := xr_lt Y
      have hD := h.d4 Y hY
      generalize xr Y = k at hk ht ⊢
      by_cases q3 : k = X
      · subst q3
        rw [eX, if_neg (by omega)]
        by_cases q2 : e k = k
        · rw [if_pos q2] at ht
          have e2 : Y = T k := by rw [← ht, h.iv.inv Y hD]
          rw [e2, vt]
          have := mz
          rw [q2] at this
          exact (show mt (P ++ [(e k, i)]) k = i by rw [q2]; exact this).symm
        · rw [if_neg q2] at ht
          have hk2 := h.inner hX q2
          have := h.pi k hX hk2
          rw [mx k hk2, vx Y hD q (fun e2 => ?_), ht]
          have := TT Y hD e2
          omega
      · rw [eo k q3]
        by_cases q2 : e k = k
        · rw [if_pos q2] at ht ⊢
          rw [vx Y hD q (fun e2 => ?_), ht]
          have := TT Y hD e2
          omega
        · rw [if_neg q2] at ht ⊢
          have hk2 := h.inner hk q2
          have := h.pi k hk hk2
          rw [mx k hk2, vx Y hD q (fun e2 => ?_), ht]
          have := TT Y hD e2
          omega
end Go.Proofs.Ytphhlflcghffbaa
/- Plain mathematics: the pairs of ref.LinkOf tell the ties of tangle.Link. -/
namespace Go.Proofs.Ytphhlflcghffbaa

/-- Where the four ends are. -/
def eR (r : RS) : Nat → Nat := fun k => if k = 3 then r.se else if k = 2 then r.sw else if k = 1 then r.ne else 0
theorem Iv.congr {D D' : Nat → Prop} {T : Nat → Nat} {P : List (Nat × Nat)} {e e' : Nat → Nat} (h : Iv D T P e) (hD : ∀ x, D x ↔ D' x) (he : e = e') : Iv D' T P e' := by
  have : D = D' := funext fun x => propext (hD x)
  subst this he
  exact h
theorem Iv.step {T : Nat → Nat} {n : Nat} {r : RS} (h : Iv (Dom n) T r.P (eR r)) (right up : Bool) : Iv (Dom (n + 1)) (stepT T n right up) (rsStep r n right up).P (eR (rsStep r n right up)) := by
  obtain ⟨m1, m2, m3, m4, m5, m6⟩ := cor_ne n up
  have g0 := cor_ge n up 0
  have g1 := cor_ge n up 1
  have g2 := cor_ge n up 2
  have g3 := cor_ge n up 3
  have c0 := cor_lt n up 0
  have c1 := cor_lt n up 1
  have c2 := cor_lt n up 2
  have c3 := cor_lt n up 3
  have all := cor_all n up
  have nd : ∀ c, ¬ Dom n (cor n up c) := fun c hc => by have := cor_ge n up c; unfold Dom at hc; omega
  unfold stepT rsStep
  cases right
  · rw [if_neg (by decide), if_neg (by decide)]
    have h1 := h.half (X := 2) (by decide) (nd 0) (nd 2) m2 (by omega) (by omega)
    have h2 := h1.half (X := 3) (i := cor n up 1) (o := cor n up 3) (by decide) (fun h0 => h0.elim (Ne.symm m1) (fun h0 => h0.elim m4 (nd 1))) (fun h0 => h0.elim (Ne.symm m3) (fun h0 => h0.elim (Ne.symm m6) (nd 3))) m5 (by omega) (by omega)
    refine h2.congr (fun x => ?_) (funext fun k => ?_)
    · unfold Dom
      constructor
      · intro hx; omega
      · intro hx
        rcases Nat.lt_or_ge x (4 * n + 4) with h3 | h3
        · omega
        · have := all x h3 hx; omega
    · unfold eW eR
      by_cases k3 : k = 3
      · rw [if_pos k3, if_pos k3]
      · rw [if_neg k3, if_neg k3, if_neg k3]
        by_cases k2 : k = 2
        · rw [if_pos k2, if_pos k2]
        · rw [if_neg k2, if_neg k2, if_neg k2]
  · rw [if_pos rfl, if_pos rfl]
    have h1 := h.half (X := 1) (by decide) (nd 0) (nd 1) m1 (by omega) (by omega)
    have h2 := h1.half (X := 3) (i := cor n up 2) (o := cor n up 3) (by decide) (fun h0 => h0.elim (Ne.symm m2) (fun h0 => h0.elim (Ne.symm m4) (nd 2))) (fun h0 => h0.elim (Ne.symm m3) (fun h0 => h0.elim (Ne.symm m5) (nd 3))) m6 (by omega) (by omega)
    refine h2.congr (fun x => ?_) (funext fun k => ?_)
    · unfold Dom
      constructor
      · intro hx; omega
      · intro hx
        rcases Nat.lt_or_ge x (4 * n + 4) with h3 | h3
        · omega
        · have := all x h3 hx; omega
    · unfold eW eR
      by_cases k3 : k = 3
      · rw [if_pos k3, if_pos k3]
      · rw [if_neg k3, if_neg k3, if_neg k3]
        by_cases k2 : k = 2
        · rw [if_neg (by omega), if_pos k2, if_pos k2]
        · rw [if_neg k2, if_neg k2]
          by_cases k1 : k = 1
          · rw [if_pos k1, if_pos k1]
          · rw [if_neg k1, if_neg k1, if_neg k1]
theorem Iv.start : Iv (Dom 0) tie0 rs0.P (eR rs0) := by
  have key : ∀ x, Dom 0 x → x = 0 ∨ x = 1 ∨ x = 2 ∨ x = 3 := fun x hx => by unfold Dom at hx; omega
  have no : ∀ x, ¬ hasX rs0.P x := fun x ⟨p, hp, _⟩ => by simp [rs0] at hp
  have ek : ∀ x, x < 4 → eR rs0 x = x := fun x hx => by
    rcases key x hx with rfl | rfl | rfl | rfl <;> rfl
  refine ⟨tie0_invo, fun x hx => by unfold Dom; omega, fun X hX => Or.inl (ek X hX), fun X hX => by rw [ek X hX]; unfold Dom; omega, fun X _ => no _, fun X Y hX hY h => by rw [ek X hX, ek Y hY] at h; exact h, fun x hx => Or.inr ⟨x, hx, (ek x hx).symm⟩, fun x h => absurd h (no x), fun x _ h => absurd h (no x), fun X hX h => by rw [ek X hX] at h; omega, fun x _ h => absurd h (no x), fun x _ h => absurd h (no x), fun X hX h => by rw [ek X hX] at h; omega, fun X hX _ => ?_, fun x => rfl⟩
  rw [ek _ (xr_lt X), if_pos rfl]
  rcases key X hX with rfl | rfl | rfl | rfl <;> rfl
theorem Iv.run {T : Nat → Nat} {n : Nat} {r : RS} (h : Iv (Dom n) T r.P (eR r)) (right up : Bool) (j : Nat) : Iv (Dom (n + j)) (twR T n right up j) (rsR r n right up j).P (eR (rsR r n right up j)) := by
  induction j with
  | zero => exact h
  | succ j ih => exact ih.step right up
theorem Iv.all (l : List Int) (i : Nat) : Iv (Dom (szTo l i)) (twL l i) (rsL l i).P (eR (rsL l i)) := by
  induction i with
  | zero => exact Iv.start
  | succ i ih => exact ih.run _ _ _
/-- What joining a and b does to a third. -/
theorem jn_at {D : Nat → Prop} {T : Nat → Nat} {a b : Nat} (h : Invo D T) (ha : D a) (hb : D b) {y : Nat} (hy : D y) (y1 : y ≠ a) (y2 : y ≠ b) : jn T a b y = if T y = a then T b else if T y = b then T a else T y := by
  have ka : T y = a → y = T a := fun e => by rw [← e, h.inv y hy]
  have kb : T y = b → y = T b := fun e => by rw [← e, h.inv y hy]
  unfold jn
  by_cases e : T a = b
  · rw [if_pos e, if_neg (fun h0 => y2 (by rw [ka h0, e])), if_neg (fun h0 => y1 (by rw [kb h0, ← e, h.inv a ha]))]
  · rw [if_neg e]
    show (if y = T b then T a else if y = T a then T b else T y) = _
    by_cases h1 : T y = a
    · rw [if_pos h1]
      have e1 := ka h1
      by_cases h2 : y = T b
      · rw [if_pos h2]
        have : a = b := by rw [← h.inv a ha, ← e1, h2, h.inv b hb]
        rw [this]
      · rw [if_neg h2, if_pos e1]
    · rw [if_neg h1]
      by_cases h2 : T y = b
      · rw [if_pos h2, if_pos (kb h2)]
      · rw [if_neg h2, if_neg (fun h0 => h2 (by rw [h0, h.inv b hb])), if_neg (fun h0 => h1 (by rw [h0, h.inv a ha]))]
theorem Iv.own {D : Nat → Prop} {T : Nat → Nat} {P : List (Nat × Nat)} {e : Nat → Nat} (h : Iv D T P e) {X : Nat} (hX : X < 4) : 4 ≤ T X ∨ (T X = xr X ∧ e X = X ∧ e (xr X) = xr X) := by
  rcases h.e1 X hX with h1 | h1
  · have ht := h.t5 X hX h1
    have hk := xr_lt X
    by_cases h2 : e (xr X) = xr X
    · rw [if_pos h2] at ht; exact Or.inr ⟨ht, h1, h2⟩
    · rw [if_neg h2] at ht
      have := h.pi _ hk (h.inner hk h2)
      exact Or.inl (by omega)
  · exact Or.inl (by rw [h.t4 X hX h1]; exact h1)
/-- The ties behind both joins. -/
theorem Iv.link {D : Nat → Prop} {T : Nat → Nat} {P : List (Nat × Nat)} {e : Nat → Nat} (h : Iv D T P e) {x : Nat} (hx : D x) (h4 : 4 ≤ x) : jn (jn T 0 1) 2 3 x = if 4 ≤ T x then T x else T (xr (T x)) := by
  have d := h.d4
  have hI := h.iv
  have hJ := jn_invo hI (a := 0) (b := 1) (d 0 (by decide)) (d 1 (by decide)) (by decide)
  have j2 : jn T 0 1 2 = T 2 := by
    rw [jn_at hI (d 0 (by decide)) (d 1 (by decide)) (d 2 (by decide)) (by decide) (by decide)]
    have := h.own (X := 2) (by decide)
    have e2 : xr 2 = 3 := rfl
    rw [e2] at this
    rw [if_neg (by omega), if_neg (by omega)]
  have j3 : jn T 0 1 3 = T 3 := by
    rw [jn_at hI (d 0 (by decide)) (d 1 (by decide)) (d 3 (by decide)) (by decide) (by decide)]
    have := h.own (X := 3) (by decide)
    have e2 : xr 3 = 2 := rfl
    rw [e2] at this
    rw [if_neg (by omega), if_neg (by omega)]
  have hjx := jn_at hI (d 0 (by decide)) (d 1 (by decide)) hx (by omega) (by omega)
  rw [jn_at hJ (a := 2) (b := 3) ⟨d 2 (by decide), by decide, by decide⟩ ⟨d 3 (by decide), by decide, by decide⟩ ⟨hx, by omega, by omega⟩ (by omega) (by omega), j2, j3]
  have oth : ∀ j, j < 4 → T x = j → 4 ≤ T (xr j) := fun j hj e1 => by
    have e2 : T j = x := by rw [← e1, hI.inv x hx]
    rcases h.own (xr_lt j) with h1 | ⟨h1, -, -⟩
    · exact h1
    · rw [xr_xr hj] at h1
      have : T j = xr j := by have h5 := hI.inv _ (d _ (xr_lt j)); rw [h1] at h5; exact h5
      have := xr_lt j
      omega
  by_cases q : 4 ≤ T x
  · rw [if_neg (by omega), if_neg (by omega)] at hjx
    rw [hjx, if_pos q, if_neg (by omega), if_neg (by omega)]
  · rw [if_neg q]
    have key : T x = 0 ∨ T x = 1 ∨ T x = 2 ∨ T x = 3 := by omega
    rcases key with e1 | e1 | e1 | e1
    · have := oth 0 (by decide) e1
      rw [show xr 0 = 1 from rfl] at this
      rw [if_pos e1] at hjx
      rw [hjx, if_neg (by omega), if_neg (by omega), e1]; rfl
    · have := oth 1 (by decide) e1
      rw [show xr 1 = 0 from rfl] at this
      rw [if_neg (by omega), if_pos e1] at hjx
      rw [hjx, if_neg (by omega), if_neg (by omega), e1]; rfl
    · rw [if_neg (by omega), if_neg (by omega)] at hjx
      rw [hjx, if_pos e1, e1]; rfl
    · rw [if_neg (by omega), if_neg (by omega)] at hjx
      rw [hjx, if_neg (by omega), if_pos e1, e1]; rfl
theorem Iv.loops {D : Nat → Prop} {T : Nat → Nat} {P : List (Nat × Nat)} {e : Nat → Nat} (h : Iv D T P e) : jn T 0 1 2 = T 2 := by
  have d := h.d4
  rw [jn_at h.iv (d 0 (by decide)) (d 1 (by decide)) (d 2 (by decide)) (by decide) (by decide)]
  have := h.own (X := 2) (by decide)
  have e2 : xr 2 = 3 := rfl
  rw [e2] at this
  rw [if_neg (by omega), if_neg (by omega)]
/-- The last two pairs. -/
theorem Iv.last {D : Nat → Prop} {T : Nat → Nat} {P : List (Nat × Nat)} {e : Nat → Nat} (h : Iv D T P e) :
    (∀ x, hasX P x → mt (P ++ [(e 0, e 1)] ++ [(e 2, e 3)]) x = mt P x) ∧ (∀ k, k < 4 → mt (P ++ [(e 0, e 1)] ++ [(e 2, e 3)]) (e k) = e (xr k)) ∧ (∀ x, D x → hasX (P ++ [(e 0, e 1)] ++ [(e 2, e 3)]) x) ∧ ∀ x, lmF (P ++ [(e 0, e 1)] ++ [(e 2, e 3)]) x = mt (P ++ [(e 0, e 1)] ++ [(e 2, e 3)]) x := by
  have n0 := h.en 0 (by decide)
  have n1 := h.en 1 (by decide)
  have n2 := h.en 2 (by decide)
  have n3 := h.en 3 (by decide)
  have i01 : e 0 ≠ e 1 := fun h0 => absurd (h.ei 0 1 (by decide) (by decide) h0) (by decide)
  have i02 : e 0 ≠ e 2 := fun h0 => absurd (h.ei 0 2 (by decide) (by decide) h0) (by decide)
  have i03 : e 0 ≠ e 3 := fun h0 => absurd (h.ei 0 3 (by decide) (by decide) h0) (by decide)
  have i12 : e 1 ≠ e 2 := fun h0 => absurd (h.ei 1 2 (by decide) (by decide) h0) (by decide)
  have i13 : e 1 ≠ e 3 := fun h0 => absurd (h.ei 1 3 (by decide) (by decide) h0) (by decide)
  have i23 : e 2 ≠ e 3 := fun h0 => absurd (h.ei 2 3 (by decide) (by decide) h0) (by decide)
  have hP1 : ∀ x, hasX (P ++ [(e 0, e 1)]) x ↔ hasX P x ∨ e 0 = x ∨ e 1 = x := fun x => hasX_app P _ _ x
  have k2 : ¬ hasX (P ++ [(e 0, e 1)]) (e 2) := fun h0 => ((hP1 _).1 h0).elim n2 (fun h0 => h0.elim i02 i12)
  have k3 : ¬ hasX (P ++ [(e 0, e 1)]) (e 3) := fun h0 => ((hP1 _).1 h0).elim n3 (fun h0 => h0.elim i03 i13)
  refine ⟨fun x hx => ?_, fun k hk => ?_, fun x hx => ?_, lm_app k2 k3 i23 (lm_app n0 n1 i01 h.lm)⟩
  · rw [mt_has _ _ _ _ ((hP1 x).2 (Or.inl hx)), mt_has _ _ _ _ hx]
  · have key : k = 0 ∨ k = 1 ∨ k = 2 ∨ k = 3 := by omega
    rcases key with rfl | rfl | rfl | rfl
    · rw [mt_has _ _ _ _ ((hP1 _).2 (Or.inr (Or.inl rfl))), mt_no _ _ _ _ n0, if_pos rfl]; rfl
    · rw [mt_has _ _ _ _ ((hP1 _).2 (Or.inr (Or.inr rfl))), mt_no _ _ _ _ n1, if_neg i01, if_pos rfl]; rfl
    · rw [mt_no _ _ _ _ k2, if_pos rfl]; rfl
    · rw [mt_no _ _ _ _ k3, if_neg i23, if_pos rfl]; rfl
  · rw [hasX_app, hP1]
    rcases h.cov x hx with h1 | ⟨X, hX, rfl⟩
    · exact Or.inl (Or.inl h1)
    · have key : X = 0 ∨ X = 1 ∨ X = 2 ∨ X = 3 := by omega
      rcases key with rfl | rfl | rfl | rfl
      · exact Or.inl (Or.inr (Or.inl rfl))
      · exact Or.inl (Or.inr (Or.inr rfl))
      · exact Or.inr (Or.inl rfl)
      · exact Or.inr (Or.inr rfl)
/-- What walked needs of the pairs. -/
structure Prs (n : Nat) (U : Nat → Nat) (P : List (Nat × Nat)) : Prop where
  has : ∀ x, x < 4 * n + 4 → hasX P x
  two : ∀ x, Sp n x → mt P x < 4 → 4 ≤ mt P (xr (mt P x))
  oth : ∀ x, Sp n x → othR P x = U x
  lm : ∀ x, lmF P x = mt P x
  o1 : mt P 1 = 0 ∨ 4 ≤ mt P 1
  o3 : mt P 3 = 2 ∨ 4 ≤ mt P 3
theorem Iv.prs {n : Nat} {T : Nat → Nat} {P : List (Nat × Nat)} {e : Nat → Nat} (h : Iv (Dom n) T P e) :
    Prs n (jn (jn T 0 1) 2 3) (P ++ [(e 0, e 1)] ++ [(e 2, e 3)]) ∧ ((T 0 = 1) ↔ mt (P ++ [(e 0, e 1)] ++ [(e 2, e 3)]) 1 = 0) ∧ ((jn T 0 1 2 = 3) ↔ mt (P ++ [(e 0, e 1)] ++ [(e 2, e 3)]) 3 = 2) := by
  obtain ⟨l1, l2, l3, l4⟩ := h.last
  generalize P ++ [(e 0, e 1)] ++ [(e 2, e 3)] = Q at l1 l2 l3 l4 ⊢
  have two : ∀ x, Sp n x → (4 ≤ mt Q x ∨ 4 ≤ mt Q (xr (mt Q x))) ∧ othR Q x = jn (jn T 0 1) 2 3 x := fun x hx => by
    have hxD : Dom n x := hx.2
    have h4 : 4 ≤ x := hx.1
    rw [h.link hxD h4]
    unfold othR
    rcases h.cov x hxD with h1 | ⟨X, hX, rfl⟩
    · rw [l1 x h1]
      by_cases q : 4 ≤ mt P x
      · rw [if_pos q, h.t2 x h4 h1 q, if_pos q]
        exact ⟨Or.inl q, rfl⟩
      · rw [if_neg q]
        have t3 := h.t3 x h4 h1 (by omega)
        obtain ⟨-, -, p3, -⟩ := h.pD x h1
        have hj : mt P x < 4 := by omega
        generalize mt P x = j at q t3 p3 hj ⊢
        have hej : 4 ≤ e j := (h.e1 j hj).resolve_left fun h0 => h.en j hj (by rw [h0]; exact p3)
        have hk := xr_lt j
        have hxx := xr_xr hj
        generalize xr j = k at hk hxx t3 ⊢
        by_cases q2 : e k = k
        · rw [if_pos q2] at t3
          have e1 : mt Q k = e j := by
            have := l2 k hk
            rw [q2, hxx] at this
            exact this
          rw [e1, t3, if_neg (by omega), hxx, h.t4 j hj hej]
          exact ⟨Or.inr hej, rfl⟩
        · rw [if_neg q2] at t3
          have hk2 := h.inner hk q2
          have := h.pi k hk hk2
          rw [l1 k hk2, t3, if_pos this]
          exact ⟨Or.inr this, rfl⟩
    · rw [l2 X hX, h.t1 X hX h4, if_neg (by omega : ¬ 4 ≤ X)]
      have hk := xr_lt X
      have hxx := xr_xr hX
      generalize xr X = k at hk hxx ⊢
      rcases h.e1 k hk with q | q
      · have t5 := h.t5 k hk q
        have hne : e X ≠ X := by omega
        rw [hxx, if_neg hne] at t5
        have hX2 := h.inner hX hne
        have := h.pi X hX hX2
        rw [q, if_neg (by omega), hxx, l1 X hX2, t5]
        exact ⟨Or.inr this, rfl⟩
      · rw [if_pos q, h.t4 k hk q]
        exact ⟨Or.inl q, rfl⟩
  have one : ∀ k, k < 4 → (mt Q k = xr k ↔ T k = xr k) ∧ (mt Q (xr k) = k ↔ T k = xr k) ∧ (mt Q k = xr k ∨ 4 ≤ mt Q k) := fun k hk => by
    have hx := xr_lt k
    have hxx := xr_xr hk
    have hn := xr_ne hk
    have key : ∀ j, j < 4 → (mt Q j = xr j ↔ e j = j ∧ e (xr j) = xr j) ∧ (mt Q j = xr j ∨ 4 ≤ mt Q j) := fun j hj => by
      have hx := xr_lt j
      by_cases q : e j = j
      · have := l2 j hj
        rw [q] at this
        rw [this]
        rcases h.e1 (xr j) hx with h1 | h1
        · rw [h1]; exact ⟨⟨fun _ => ⟨q, rfl⟩, fun _ => rfl⟩, Or.inl rfl⟩
        · exact ⟨⟨fun h0 => by omega, fun h0 => by omega⟩, Or.inr h1⟩
      · have hj2 := h.inner hj q
        have := h.pi j hj hj2
        rw [l1 j hj2]
        exact ⟨⟨fun h0 => by omega, fun h0 => absurd h0.1 q⟩, Or.inr this⟩
    have kT : T k = xr k ↔ e k = k ∧ e (xr k) = xr k := by
      constructor
      · intro h0
        rcases h.own hk with h1 | h1
        · omega
        · exact h1.2
      · intro h0
        rw [h.t5 k hk h0.1, if_pos h0.2]
    have k2 := key (xr k) hx
    rw [hxx] at k2
    exact ⟨(key k hk).1.trans kT.symm, k2.1.trans (and_comm.trans kT.symm), (key k hk).2⟩
  refine ⟨⟨fun x hx => l3 x hx, fun x hx hm => ((two x hx).1.resolve_left (by omega)), fun x hx => (two x hx).2, l4, (one 1 (by decide)).2.2, (one 3 (by decide)).2.2⟩, (one 0 (by decide)).2.1.symm, ?_⟩
  rw [h.loops]
  exact (one 2 (by decide)).2.1.symm
/-- The pairs of a list's link. -/
theorem lk_prs (l : List Int) : Prs (szTo l l.length) (lkU l) (rsP (rsL l l.length)) ∧ lkO l = (if mt (rsP (rsL l l.length)) 1 = 0 then 1 else 0) + (if mt (rsP (rsL l l.length)) 3 = 2 then 1 else 0) := by
  have h := (Iv.all l l.length).prs
  have e : (rsL l l.length).P ++ [(eR (rsL l l.length) 0, eR (rsL l l.length) 1)] ++ [(eR (rsL l l.length) 2, eR (rsL l l.length) 3)] = rsP (rsL l l.length) := rfl
  rw [e] at h
  refine ⟨h.1, ?_⟩
  unfold lkO
  simp only [h.2.1, h.2.2]
end Go.Proofs.Ytphhlflcghffbaa
/- Plain mathematics: what ref.pairing.walked keeps while it walks. -/
namespace Go.Proofs.Ytphhlflcghffbaa

/-- On which side the strand k of crossing c was walked in; -1: not yet. -/
def iF (L : List Nat) (c k : Nat) : Int := if 4 * c + 4 + k + 2 ∈ L then (k : Int) + 2 else if 4 * c + 4 + k ∈ L then (k : Int) else -1
theorem iF_dB {L : List Nat} {c k : Nat} (h : 4 * c + 4 + k ∈ L ∨ 4 * c + 4 + k + 2 ∈ L) : iF L c k = dB L c k := by
  unfold iF dB
  by_cases h2 : 4 * c + 4 + k + 2 ∈ L
  · rw [if_pos h2, if_pos h2]
  · rw [if_neg h2, if_neg h2, if_pos (h.resolve_right h2), if_pos (h.resolve_right h2)]
theorem iF_neg {L : List Nat} {c k : Nat} : iF L c k < 0 ↔ 4 * c + 4 + k ∉ L ∧ 4 * c + 4 + k + 2 ∉ L := by
  unfold iF
  by_cases h2 : 4 * c + 4 + k + 2 ∈ L
  · rw [if_pos h2]
    exact ⟨fun h => by omega, fun h => absurd h2 h.2⟩
  · rw [if_neg h2]
    by_cases h1 : 4 * c + 4 + k ∈ L
    · rw [if_pos h1]
      exact ⟨fun h => by omega, fun h => absurd h1 h.1⟩
    · rw [if_neg h1]
      exact ⟨fun _ => ⟨h1, h2⟩, fun _ => by omega⟩
/-- The two spots of a strand. -/
theorem strand_at {n x : Nat} (hx : Sp n x) : (4 * (x / 4 - 1) + 4 + x % 4 % 2 = x ∧ 4 * (x / 4 - 1) + 4 + x % 4 % 2 + 2 = acr x) ∨ (4 * (x / 4 - 1) + 4 + x % 4 % 2 = acr x ∧ 4 * (x / 4 - 1) + 4 + x % 4 % 2 + 2 = x) := by
  unfold Sp at hx
  unfold acr
  omega
theorem iF_at {n x : Nat} {L : List Nat} (hx : Sp n x) : iF L (x / 4 - 1) (x % 4 % 2) < 0 ↔ x ∉ L ∧ acr x ∉ L := by
  rw [iF_neg]
  rcases strand_at hx with ⟨h1, h2⟩ | ⟨h1, h2⟩
  · rw [h2, h1]
  · rw [h2, h1]; exact And.comm
theorem iF_step {n : Nat} {L : List Nat} {x : Nat} (hx : Sp n x) (h2 : acr x ∉ L) (c k : Nat) (hk : k < 2) : iF (L ++ [x]) c k = if c = x / 4 - 1 ∧ k = x % 4 % 2 then ((x % 4 : Nat) : Int) else iF L c k := by
  unfold Sp at hx
  unfold iF
  by_cases e : c = x / 4 - 1 ∧ k = x % 4 % 2
  · rw [if_pos e]
    obtain ⟨rfl, rfl⟩ := e
    by_cases hs : x % 4 < 2
    · have e1 : 4 * (x / 4 - 1) + 4 + x % 4 % 2 = x := by omega
      have e2 : 4 * (x / 4 - 1) + 4 + x % 4 % 2 + 2 = acr x := by unfold acr; omega
      rw [e2, e1, if_neg (by simp [h2, acr_ne]), if_pos (by simp)]
      omega
    · have e2 : 4 * (x / 4 - 1) + 4 + x % 4 % 2 + 2 = x := by omega
      rw [e2, if_pos (by simp)]
      omega
  · rw [if_neg e]
    have n1 : 4 * c + 4 + k + 2 ≠ x := fun h => e (by omega)
    have n2 : 4 * c + 4 + k ≠ x := fun h => e (by omega)
    simp [n1, n2]
/-- The arcs' numbers while a walk that began at s is at x: e stands where the next arc begins, the last arc's end is not told yet. -/
def aW (U : Nat → Nat) (s : Nat) (e : Int) (L : List Nat) (x y : Nat) : Int := if y = U x then e else if y = U s then 0 else FL U L y
/-- A walk under way. -/
structure RfW (n : Nat) (U : Nat → Nat) (L0 : List Nat) (s : Nat) (L : List Nat) (x : Nat) (e : Int) : Prop where
  way : Way n U L s x
  st : (L = L0 ∧ x = s ∧ e = 0 ∧ s ∉ L ∧ acr s ∉ L) ∨ (s ∈ L ∧ e = (L.length : Int) + 1 ∧ L.idxOf s = L0.length)
  to : (x ∈ L ∧ L = goS n U L0 s) ∨ (x ∉ L ∧ ∃ f, 4 * n + 4 < L.length + f ∧ goL U f L x = goS n U L0 s)
theorem RfW.start {n : Nat} {U : Nat → Nat} {L : List Nat} {s : Nat} (h : Rest n U L) (hs : Sp n s) (h1 : s ∉ L) (h2 : acr s ∉ L) : RfW n U L s L s 0 :=
  ⟨h.way hs h1 h2, Or.inl ⟨rfl, rfl, rfl, h1, h2⟩, Or.inr ⟨h1, 4 * n + 5, by omega, by unfold goS; rw [if_neg (fun h0 => h0.elim h1 h2)]⟩⟩
/-- Before the first step the table is as it was. -/
theorem RfW.table {n : Nat} {U : Nat → Nat} (hU : Ties n U) {L : List Nat} {s : Nat} (h : RfW n U L s L s 0) (h1 : s ∉ L) (y : Nat) : aW U s 0 L s y = FL U L y := by
  unfold aW
  by_cases e : y = U s
  · rw [if_pos e]
    refine (FL_zero.2 ⟨?_, ?_⟩).symm
    · rw [e]; exact (h.way.new hU h1).2
    · rw [e, hU.inv s h.way.xs]; exact h1
  · rw [if_neg e, if_neg e]
theorem RfW.step {n : Nat} {U : Nat → Nat} (hU : Ties n U) {L0 L : List Nat} {s x : Nat} {e : Int} (h : RfW n U L0 s L x e) (hx : x ∉ L) : RfW n U L0 s (L ++ [x]) (nxt U x) ((L.length : Int) + 1 + 1) := by
  have hw := h.way.step hU hx
  refine ⟨hw, Or.inr ⟨?_, by simp, ?_⟩, ?_⟩
  · rcases h.st with ⟨-, rfl, -, -, -⟩ | ⟨h1, -, -⟩
    · simp
    · exact List.mem_append_left _ h1
  · rcases h.st with ⟨rfl, rfl, -, h3, -⟩ | ⟨h1, -, h3⟩
    · rw [List.idxOf_append, if_neg h3]; simp
    · rw [List.idxOf_append, if_pos h1]; exact h3
  · rcases h.to with ⟨h1, -⟩ | ⟨-, f, hf, eg⟩
    · exact absurd h1 hx
    · have hsh := h.way.short
      obtain ⟨g, rfl⟩ : ∃ g, f = g + 1 := ⟨f - 1, by omega⟩
      unfold goL at eg
      rw [if_neg hx] at eg
      by_cases hm : nxt U x ∈ L ++ [x]
      · refine Or.inl ⟨hm, ?_⟩
        rw [← eg]
        cases g with
        | zero => rfl
        | succ g => unfold goL; rw [if_pos hm]
      · exact Or.inr ⟨hm, g, by simp; omega, eg⟩
theorem aW_step {n : Nat} {U : Nat → Nat} (hU : Ties n U) {L0 L : List Nat} {s x : Nat} {e : Int} (h : RfW n U L0 s L x e) (hx : x ∉ L) (hs : Sp n s) {y : Nat} (hy : Sp n y) :
    (if y = acr x then (L.length : Int) + 1 + 1 else if y = x then (L.length : Int) + 1 else aW U s e L x y) = aW U s ((L.length : Int) + 1 + 1) (L ++ [x]) (nxt U x) y := by
  obtain ⟨n1, n2⟩ := h.way.new hU hx
  have hxs := h.way.xs
  have e1 : U (nxt U x) = acr x := hU.inv _ (acr_sp hxs)
  have hxU : x ≠ U s := fun e0 => by
    rcases h.st with ⟨-, rfl, -, -, -⟩ | ⟨h1, -, -⟩
    · exact hU.ne _ hxs e0.symm
    · rw [e0, hU.inv s hs] at n2; exact n2 h1
  unfold aW
  rw [e1]
  by_cases q1 : y = acr x
  · rw [if_pos q1, if_pos q1]
  · rw [if_neg q1, if_neg q1, FL_step hU hx n2 hxs hy]
    by_cases q2 : y = x
    · rw [if_pos q2, if_neg (by rw [q2]; exact hxU), if_pos (Or.inl q2)]
    · rw [if_neg q2]
      by_cases q3 : y = U x
      · rw [if_pos q3, if_pos (Or.inr q3 : y = x ∨ y = U x)]
        rcases h.st with ⟨-, rfl, h3, -, -⟩ | ⟨h1, h3, -⟩
        · rw [if_pos q3, h3]
        · rw [if_neg (fun h0 => ?_), h3]
          have : x = s := hU.inj hxs hs (q3.symm.trans h0)
          exact hx (this ▸ h1)
      · rw [if_neg q3, if_neg (fun h0 : y = x ∨ y = U x => h0.elim q2 q3)]
/-- A walk that is back. -/
theorem RfW.done {n : Nat} {U : Nat → Nat} (hU : Ties n U) {L0 L : List Nat} {s x : Nat} {e : Int} (h : RfW n U L0 s L x e) (hx : x ∈ L) : Rest n U L ∧ L = goS n U L0 s ∧ ∀ y, (if y = U s then (L0.length : Int) + 1 else aW U s e L x y) = FL U L y := by
  obtain ⟨h1, h2, rfl⟩ := h.way.done hx
  refine ⟨h1, (h.to.resolve_right fun h0 => h0.1 hx).2, fun y => ?_⟩
  have hi := (h.st.resolve_left fun h0 => h0.2.2.2.1 hx).2.2
  have hs := h.way.xs
  unfold aW
  by_cases q : y = U x
  · rw [if_pos q]
    have hnU : U x ∉ L := by
      rcases h.way.c with ⟨-, h3, -⟩ | ⟨z, hz, e3⟩
      · exact absurd hx h3
      · have e4 : U x = acr z := by rw [e3]; exact hU.inv _ (acr_sp (h.way.sp z hz))
        rw [e4]
        exact h.way.a z hz
    unfold FL
    rw [q, if_neg hnU, hU.inv x hs, if_pos hx, hi]
  · rw [if_neg q, if_neg q, if_neg q]
/-- Whether the walk goes on is told by the strand's side. -/
theorem RfW.goes {n : Nat} {U : Nat → Nat} (hU : Ties n U) {L0 L : List Nat} {s x : Nat} {e : Int} (h : RfW n U L0 s L x e) : iF L (x / 4 - 1) (x % 4 % 2) < 0 ↔ x ∉ L := by
  rw [iF_at h.way.xs]
  exact ⟨fun h0 => h0.1, fun h0 => ⟨h0, (h.way.new hU h0).1⟩⟩
end Go.Proofs.Ytphhlflcghffbaa
