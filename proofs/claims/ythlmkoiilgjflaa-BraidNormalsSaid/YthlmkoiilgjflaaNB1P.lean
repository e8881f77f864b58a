/- Several texts of the proof, one behind the other. -/
import Derived.Test.YthlmkoiilgjflaaBR0
import Derived.Test.YthlmkoiilgjflaaG7P
import Derived.Test.YthlmkoiilgjflaaInP
/- BraidNormals: texts behind letters grow as Pell's numbers. -/
namespace Go.Proofs.Ythlmkoiilgjflaa

theorem stp_rows (T : List (List Int)) (x : Int) (j : Nat) (h0 : j ≠ x.natAbs - 1) (h1 : j ≠ x.natAbs) : (stp T x).getD j [] = T.getD j [] := by
  unfold stp
  by_cases hx : 0 < x
  · rw [if_pos hx, getD_setL, if_neg (fun h => h1 h.1), getD_setL, if_neg (fun h => h0 h.1)]
  · rw [if_neg hx, getD_setL, if_neg (fun h => h1 h.1), getD_setL, if_neg (fun h => h0 h.1)]
theorem rc_lenN (a : List Int) : (rc a).length = a.length := by unfold rc; simp [mapI]
theorem getD_out (T : List (List Int)) (i : Nat) (h : ¬ i < T.length) : T.getD i [] = [] := by
  rw [List.getD_eq_getElem?_getD, List.getElem?_eq_none (by omega)]; rfl
theorem stp_two (T : List (List Int)) (x : Int) (hx : x ≠ 0) :
    (((stp T x).getD (x.natAbs - 1) []).length ≤ 2 * (T.getD (x.natAbs - 1) []).length + (T.getD x.natAbs []).length ∧ ((stp T x).getD x.natAbs []).length ≤ (T.getD (x.natAbs - 1) []).length) ∨
    (((stp T x).getD (x.natAbs - 1) []).length ≤ (T.getD x.natAbs []).length ∧ ((stp T x).getD x.natAbs []).length ≤ 2 * (T.getD x.natAbs []).length + (T.getD (x.natAbs - 1) []).length) := by
  have hne : x.natAbs - 1 ≠ x.natAbs := by omega
  generalize hA : T.getD (x.natAbs - 1) [] = A
  generalize hB : T.getD x.natAbs [] = B
  by_cases hp : 0 < x
  · left
    have e : stp T x = (T.set (x.natAbs - 1) (gl (gl A B) (rc A))).set x.natAbs A := by unfold stp; rw [if_pos hp, hA, hB]
    rw [e]
    have g1 := gl_len (gl A B) (rc A)
    have g2 := gl_len A B
    rw [rc_lenN] at g1
    refine ⟨?_, ?_⟩
    · rw [getD_setL, if_neg (fun h => hne h.1), getD_setL]
      split
      · omega
      · rw [hA]; omega
    · rw [getD_setL]
      split
      · exact Nat.le_refl _
      · rename_i hn
        rw [getD_out _ _ (fun h => hn ⟨rfl, h⟩)]
        exact Nat.zero_le _
  · right
    have e : stp T x = (T.set (x.natAbs - 1) B).set x.natAbs (gl (gl (rc B) A) B) := by unfold stp; rw [if_neg hp, hA, hB]
    rw [e]
    have g1 := gl_len (gl (rc B) A) B
    have g2 := gl_len (rc B) A
    rw [rc_lenN] at g2
    refine ⟨?_, ?_⟩
    · rw [getD_setL, if_neg (fun h => hne h.1), getD_setL]
      split
      · exact Nat.le_refl _
      · rename_i hn
        rw [getD_out T _ (fun h => hn ⟨rfl, h⟩)]
        exact Nat.zero_le _
    · rw [getD_setL]
      split
      · omega
      · rename_i hn
        rw [getD_out _ _ (fun h => hn ⟨rfl, h⟩)]
        exact Nat.zero_le _
/-- Each text, any two. -/
structure PlT (p q : Nat) (T : List (List Int)) : Prop where
  one : ∀ i, (T.getD i []).length ≤ p
  two : ∀ i j, i ≠ j → (T.getD i []).length + (T.getD j []).length ≤ p + q
theorem PlT.stp {p q : Nat} {T : List (List Int)} (h : PlT p q T) (hq : q ≤ p) (x : Int) (hx : x ≠ 0) : PlT (2 * p + q) p (stp T x) := by
  have hne : x.natAbs - 1 ≠ x.natAbs := by omega
  have ht := stp_two T x hx
  have hr := stp_rows T x
  have hab := h.two _ _ hne
  have ha := h.one (x.natAbs - 1)
  have hb := h.one x.natAbs
  generalize x.natAbs - 1 = i0 at *
  generalize x.natAbs = i1 at *
  have all : ∀ j, ((Go.Proofs.Ythlmkoiilgjflaa.stp T x).getD j []).length ≤ 2 * p + q := fun j => by
    by_cases e0 : j = i0
    · subst e0; omega
    · by_cases e1 : j = i1
      · subst e1; omega
      · rw [hr j e0 e1]; have := h.one j; omega
  refine ⟨all, fun i j hij => ?_⟩
  by_cases ei : i = i0
  · subst ei
    by_cases ej : j = i1
    · subst ej; omega
    · rw [hr j (fun e => hij e.symm) ej]; have := h.one j; omega
  · by_cases ei1 : i = i1
    · subst ei1
      by_cases ej : j = i0
      · subst ej; omega
      · rw [hr j ej (fun e => hij e.symm)]; have := h.one j; omega
    · rw [hr i ei ei1]
      have h1 := h.one i
      have h2 := all j
      omega
theorem act_pell (n : Nat) (w : List Int) (hw : ∀ x ∈ w, x ≠ 0) (k : Nat) (hk : k ≤ w.length) : PlT (pell k).1 (pell k).2 (actT n w k) := by
  induction k with
  | zero =>
    have e : actT n w 0 = act0 n := rfl
    have one : ∀ i, ((act0 n).getD i []).length ≤ 1 := fun i => by
      unfold act0
      rw [List.getD_eq_getElem?_getD, List.getElem?_map]
      by_cases hi : i < n
      · rw [List.getElem?_eq_getElem (by simpa using hi)]; simp
      · rw [List.getElem?_eq_none (by simp; omega)]; simp
    rw [e]
    exact ⟨one, fun i j _ => Nat.add_le_add (one i) (one j)⟩
  | succ k ih =>
    rw [actT_next n w k (by omega)]
    exact (ih (by omega)).stp (pell_pos k) _ (hw _ (by rw [List.getD_eq_getElem?_getD, List.getElem?_eq_getElem (by omega)]; exact List.getElem_mem _))
end Go.Proofs.Ythlmkoiilgjflaa
/- Plain mathematics: overpasses; labels that are merged edge by edge come to the least of what is joined. -/
namespace Go.Proofs.Ythlmkoiilgjflaa

/-- Two labels made one: the higher is called as the lower. -/
def mer (W : List Nat) (x y : Nat) : List Nat := W.map fun z => if z = max (W.getD x 0) (W.getD y 0) then min (W.getD x 0) (W.getD y 0) else z
theorem mer_len (W : List Nat) (x y : Nat) : (mer W x y).length = W.length := by simp [mer]
theorem mer_at (W : List Nat) (x y v : Nat) (hv : v < W.length) : (mer W x y).getD v 0 = if W.getD v 0 = max (W.getD x 0) (W.getD y 0) then min (W.getD x 0) (W.getD y 0) else W.getD v 0 := by
  simp [mer, List.getD_eq_getElem?_getD, hv]
theorem mer_least {F : List (Nat × Nat)} {n : Nat} {W : List Nat} (h : Least F n W) (x y : Nat) (hx : x < n) (hy : y < n) (hF : ∀ e, e ∈ F → e.1 < n ∧ e.2 < n) : Least (F ++ [(x, y)]) n (mer W x y) := by
  obtain ⟨hl, h2⟩ := h
  have up : ∀ {u v : Nat}, Con F u v → Con (F ++ [(x, y)]) u v := fun hc S hS hu => hc S (fun e he => hS e (List.mem_append_left _ he)) hu
  have hxy : Con (F ++ [(x, y)]) x y := Con.edge (List.mem_append_right _ (List.Mem.head _))
  have lx := up (h2 x hx).1
  have ly := up (h2 y hy).1
  have hWW : Con (F ++ [(x, y)]) (W.getD x 0) (W.getD y 0) := lx.symm.trans (hxy.trans ly)
  have hmm : Con (F ++ [(x, y)]) (max (W.getD x 0) (W.getD y 0)) (min (W.getD x 0) (W.getD y 0)) := by
    rcases Nat.le_total (W.getD x 0) (W.getD y 0) with hle | hle
    · rw [Nat.max_eq_right hle, Nat.min_eq_left hle]; exact hWW.symm
    · rw [Nat.max_eq_left hle, Nat.min_eq_right hle]; exact hWW
  have hcon : ∀ v, v < n → Con (F ++ [(x, y)]) v ((mer W x y).getD v 0) := fun v hv => by
    rw [mer_at W x y v (by omega)]
    split
    · rename_i he
      have := up (h2 v hv).1
      rw [he] at this
      exact this.trans hmm
    · exact up (h2 v hv).1
  have hle : ∀ v, v < n → (mer W x y).getD v 0 ≤ v := fun v hv => by
    have h3 := (h2 v hv).2 v (Con.refl F v)
    rw [mer_at W x y v (by omega)]
    split
    · rename_i he; omega
    · exact h3
  refine ⟨by rw [mer_len]; exact hl, fun v hv => ⟨hcon v hv, fun u hu => ?_⟩⟩
  have hcl : Closed (F ++ [(x, y)]) (fun z => z < n ∧ (mer W x y).getD z 0 = (mer W x y).getD v 0) := fun e he => by
    rcases List.mem_append.1 he with h4 | h4
    · obtain ⟨e1, e2⟩ := hF e h4
      have hs : W.getD e.1 0 = W.getD e.2 0 := by
        have c : Con F e.1 e.2 := Con.edge (by cases e; exact h4)
        exact Nat.le_antisymm ((h2 _ e1).2 _ (c.trans (h2 _ e2).1)) ((h2 _ e2).2 _ (c.symm.trans (h2 _ e1).1))
      have hm : (mer W x y).getD e.1 0 = (mer W x y).getD e.2 0 := by
        rw [mer_at W x y _ (by omega), mer_at W x y _ (by omega), hs]
      show (e.1 < n ∧ (mer W x y).getD e.1 0 = _) ↔ (e.2 < n ∧ (mer W x y).getD e.2 0 = _)
      rw [hm]; exact ⟨fun q => ⟨e2, q.2⟩, fun q => ⟨e1, q.2⟩⟩
    · have : e = (x, y) := by simpa using h4
      subst this
      have hm : (mer W x y).getD x 0 = (mer W x y).getD y 0 := by
        rw [mer_at W x y _ (by omega), mer_at W x y _ (by omega)]
        split <;> split <;> omega
      show (x < n ∧ (mer W x y).getD x 0 = _) ↔ (y < n ∧ (mer W x y).getD y 0 = _)
      rw [hm]; exact ⟨fun q => ⟨hy, q.2⟩, fun q => ⟨hx, q.2⟩⟩
  obtain ⟨a1, a2⟩ := hu _ hcl ⟨hv, rfl⟩
  rw [← a2]
  exact hle u a1
def mers (W : List Nat) : List (Nat × Nat) → List Nat
  | [] => W
  | e :: E => mers (mer W e.1 e.2) E
theorem mers_app (W : List Nat) (E F : List (Nat × Nat)) : mers W (E ++ F) = mers (mers W E) F := by
  induction E generalizing W with
  | nil => rfl
  | cons e E ih => exact ih _
theorem least_nil (n : Nat) : Least [] n (List.range n) := by
  refine ⟨by simp, fun v hv => ?_⟩
  have e : (List.range n).getD v 0 = v := by simp [List.getD_eq_getElem?_getD, hv]
  rw [e]
  exact ⟨Con.refl _ v, fun u hu => by
    have := hu (fun z => z = v) (fun e he => by cases he) rfl
    omega⟩
theorem mers_least (n : Nat) : ∀ (E F : List (Nat × Nat)) (W : List Nat), (∀ e, e ∈ F ++ E → e.1 < n ∧ e.2 < n) → Least F n W → Least (F ++ E) n (mers W E) := by
  intro E
  induction E with
  | nil => intro F W _ h; simpa [mers] using h
  | cons e E ih =>
    intro F W hE h
    obtain ⟨e1, e2⟩ := hE e (by simp)
    have h' := mer_least h e.1 e.2 e1 e2 (fun f hf => hE f (List.mem_append_left _ hf))
    have := ih (F ++ [(e.1, e.2)]) _ (fun f hf => hE f (by simpa using hf)) h'
    simpa [mers] using this

/-- The edges that overpasses go along. -/
def ovE (C : List Cr) : List (Nat × Nat) := C.map fun c => (c.b.toNat, c.d.toNat)
/-- Of each arc the lowest one of its overpass. -/
def lowM (C : List Cr) : List Nat := mers (List.range (2 * C.length + 1)) (ovE C)
/-- How many arcs below one are the lowest of theirs. -/
def rootsN (L : List Nat) : Nat → Nat
  | 0 => 0
  | k + 1 => rootsN L k + (if 1 ≤ k ∧ L.getD k 0 = k then 1 else 0)
/-- The overpass of an arc; how many there are. -/
def ovM (C : List Cr) (a : Nat) : Nat := rootsN (lowM C) ((lowM C).getD a 0)
def ovC (C : List Cr) : Nat := rootsN (lowM C) (2 * C.length + 1)
theorem rootsN_mono (L : List Nat) (i j : Nat) (h : i ≤ j) : rootsN L i ≤ rootsN L j := by
  induction j with
  | zero => obtain rfl : i = 0 := by omega
            exact Nat.le_refl _
  | succ j ih =>
    rcases Nat.lt_or_ge j i with h1 | h1
    · obtain rfl : i = j + 1 := by omega
      exact Nat.le_refl _
    · exact Nat.le_trans (ih h1) (by simp [rootsN])
theorem rootsN_le (L : List Nat) (i : Nat) : rootsN L i ≤ i := by
  induction i with
  | zero => exact Nat.le_refl _
  | succ i ih => simp only [rootsN]; split <;> omega
theorem ovE_in {C : List Cr} {loops : Int} (hm : mayD C loops = true) : ∀ e, e ∈ ovE C → (1 ≤ e.1 ∧ e.1 < 2 * C.length + 1) ∧ (1 ≤ e.2 ∧ e.2 < 2 * C.length + 1) := fun e he => by
  obtain ⟨c, hc, rfl⟩ := List.mem_map.1 he
  obtain ⟨i, hi, rfl⟩ := List.getElem_of_mem hc
  have h1 := may_fit hm i 1 hi (by omega)
  have h3 := may_fit hm i 3 hi (by omega)
  have e : C.getD i Cr.none = C[i] := by simp [List.getD_eq_getElem?_getD, hi]
  have a1 : (C.getD i Cr.none).arc 1 = C[i].b := by rw [e]; rfl
  have a3 : (C.getD i Cr.none).arc 3 = C[i].d := by rw [e]; rfl
  have g1 := h1.1
  have g2 := h1.2.1
  have g3 := h3.1
  have g4 := h3.2.1
  rw [a1] at g1 g2
  rw [a3] at g3 g4
  refine ⟨⟨?_, ?_⟩, ?_, ?_⟩ <;> dsimp only <;> omega
theorem ovE_lt {C : List Cr} {loops : Int} (hm : mayD C loops = true) : ∀ e, e ∈ ovE C → e.1 < 2 * C.length + 1 ∧ e.2 < 2 * C.length + 1 := fun e he => ⟨(ovE_in hm e he).1.2, (ovE_in hm e he).2.2⟩
theorem lowM_least {C : List Cr} (hE : ∀ e, e ∈ ovE C → e.1 < 2 * C.length + 1 ∧ e.2 < 2 * C.length + 1) : Least (ovE C) (2 * C.length + 1) (lowM C) := by
  have := mers_least (2 * C.length + 1) (ovE C) [] (List.range (2 * C.length + 1)) (fun e he => hE e (by simpa using he)) (least_nil _)
  simpa [lowM] using this
/-- The lowest of an overpass is the lowest of its own. -/
theorem Least.root {E : List (Nat × Nat)} {n : Nat} {W : List Nat} (h : Least E n W) {v : Nat} (hv : v < n) : W.getD (W.getD v 0) 0 = W.getD v 0 := (h.same (h.lt hv) hv).2 (h.2 v hv).1.symm
theorem Least.le {E : List (Nat × Nat)} {n : Nat} {W : List Nat} (h : Least E n W) {v : Nat} (hv : v < n) : W.getD v 0 ≤ v := (h.2 v hv).2 v (Con.refl E v)
theorem Least.pos {E : List (Nat × Nat)} {n : Nat} {W : List Nat} (h : Least E n W) (hE : ∀ e, e ∈ E → 1 ≤ e.1 ∧ 1 ≤ e.2) {v : Nat} (hv : v < n) (h1 : 1 ≤ v) : 1 ≤ W.getD v 0 := by
  have := (h.2 v hv).1 (fun z => 1 ≤ z) (fun e he => by simp [hE e he]) h1
  exact this
end Go.Proofs.Ythlmkoiilgjflaa
