/- Braids closed: places, walks and numbers as plain mathematics. -/
import Derived.Test.YtfceigcjonlhkaaBR0
namespace Go.Proofs.Ytfceigcjonlhkaa

/-- The place behind a letter of size i. -/
def plc (p i : Nat) : Nat := if p = i then i + 1 else if p = i + 1 then i else p
/-- The place of the strand that begins at p, behind k letters. -/
def pl (l : List Int) (p : Nat) : Nat → Nat
  | 0 => p
  | k + 1 => plc (pl l p k) (l.getD k 0).natAbs
/-- Crossings that it comes to among the first k letters: 0 from the left, 1 from the right. -/
def cl (l : List Int) (p : Nat) : Nat → List (Nat × Nat)
  | 0 => []
  | k + 1 => cl l p k ++ (if pl l p k = (l.getD k 0).natAbs then [(k, 0)] else if pl l p k = (l.getD k 0).natAbs + 1 then [(k, 1)] else [])
theorem pl_rng {n : Nat} {l : List Int} (hw : ∀ j, j < l.length → 1 ≤ (l.getD j 0).natAbs ∧ (l.getD j 0).natAbs < n) {p : Nat} (h1 : 1 ≤ p) (h2 : p ≤ n) : ∀ k, k ≤ l.length → 1 ≤ pl l p k ∧ pl l p k ≤ n
  | 0, _ => ⟨h1, h2⟩
  | k + 1, hk => by
    have h := pl_rng hw h1 h2 k (by omega)
    have hx := hw k (by omega)
    unfold pl plc
    split
    · omega
    · split <;> omega
theorem cl_mem (l : List Int) (p : Nat) : ∀ k q, q ∈ cl l p k → q.1 < k ∧ q.2 < 2
  | 0, q, h => by cases h
  | k + 1, q, h => by
    unfold cl at h
    rcases List.mem_append.1 h with h | h
    · have := cl_mem l p k q h; omega
    · split at h
      · obtain rfl := List.mem_singleton.1 h; exact ⟨Nat.lt_succ_self _, show 0 < 2 by decide⟩
      · split at h
        · obtain rfl := List.mem_singleton.1 h; exact ⟨Nat.lt_succ_self _, show 1 < 2 by decide⟩
        · cases h
theorem cl_len (l : List Int) (p : Nat) : ∀ k, (cl l p k).length ≤ k
  | 0 => Nat.le_refl _
  | k + 1 => by
    have := cl_len l p k
    unfold cl
    rw [List.length_append]
    split
    · simp; omega
    · split
      · simp; omega
      · simp; omega

/-- Who stands at place q behind k letters began where q's strand began. -/
theorem beg_pl (n : Nat) (l : List Int) (hw : ∀ j, j < l.length → 1 ≤ (l.getD j 0).natAbs ∧ (l.getD j 0).natAbs < n) (k : Nat) (hk : k ≤ l.length) : ∀ (q p : Nat), q < n → (begT n l k).getD q 0 = (p : Int) → pl l p k = q + 1 := by
  induction k with
  | zero =>
    intro q p hq h
    rw [show begT n l 0 = mapI n fun i => (i : Int) + 1 from rfl, mapI_at _ _ _ hq] at h
    show p = q + 1
    omega
  | succ k ih =>
    intro q p hq h
    have hx := hw k (by omega)
    have hok := begT_ok n l (fun j hj => (hw j hj).2) k (by omega)
    rw [begT_next n l k (by omega)] at h
    show plc (pl l p k) (l.getD k 0).natAbs = q + 1
    generalize (l.getD k 0).natAbs = i at hx h ⊢
    unfold trd at h
    rw [getD_setI, getD_setI, List.length_set, hok.ln] at h
    unfold plc
    by_cases e1 : q = i
    · rw [if_pos ⟨e1, hx.2⟩] at h
      have := ih (by omega) (i - 1) p (by omega) h
      rw [if_pos (by omega)]
      omega
    · rw [if_neg (fun x => e1 x.1)] at h
      by_cases e2 : q = i - 1
      · rw [if_pos ⟨e2, by omega⟩] at h
        have := ih (by omega) i p hx.2 h
        rw [if_neg (by omega), if_pos (by omega)]
        omega
      · rw [if_neg (fun x => e2 x.1)] at h
        have := ih (by omega) q p hq h
        rw [if_neg (by omega), if_neg (by omega)]
        omega
theorem pl_beg (n : Nat) (l : List Int) (hw : ∀ j, j < l.length → 1 ≤ (l.getD j 0).natAbs ∧ (l.getD j 0).natAbs < n) (p : Nat) (h1 : 1 ≤ p) (h2 : p ≤ n) (k : Nat) (hk : k ≤ l.length) : (begT n l k).getD (pl l p k - 1) 0 = (p : Int) := by
  induction k with
  | zero =>
    rw [show begT n l 0 = mapI n fun i => (i : Int) + 1 from rfl, mapI_at _ _ _ (show pl l p 0 - 1 < n by show p - 1 < n; omega)]
    show ((p - 1 : Nat) : Int) + 1 = p
    omega
  | succ k ih =>
    have hx := hw k (by omega)
    have hr := pl_rng hw h1 h2 k (by omega)
    have hok := begT_ok n l (fun j hj => (hw j hj).2) k (by omega)
    have h := ih (by omega)
    rw [begT_next n l k (by omega)]
    show (trd (begT n l k) (l.getD k 0).natAbs).getD (plc (pl l p k) (l.getD k 0).natAbs - 1) 0 = (p : Int)
    generalize (l.getD k 0).natAbs = i at hx ⊢
    generalize pl l p k = q at hr h ⊢
    unfold trd plc
    rw [getD_setI, getD_setI, List.length_set, hok.ln]
    by_cases e1 : q = i
    · rw [if_pos e1, if_pos ⟨by omega, hx.2⟩, ← e1]; exact h
    · rw [if_neg e1]
      by_cases e2 : q = i + 1
      · rw [if_pos e2, if_neg (by omega), if_pos ⟨rfl, by omega⟩]
        rw [e2] at h
        exact h
      · rw [if_neg e2, if_neg (by omega), if_neg (by omega)]
        exact h
/-- The ends that braid.Ends tells are the places behind all letters. -/
theorem ends_pl (n : Nat) (l : List Int) (hw : ∀ j, j < l.length → 1 ≤ (l.getD j 0).natAbs ∧ (l.getD j 0).natAbs < n) (p : Nat) (h1 : 1 ≤ p) (h2 : p ≤ n) : (endT (begT n l l.length) n).getD (p - 1) 0 = (pl l p l.length : Int) := by
  have hok := begT_ok n l (fun j hj => (hw j hj).2) l.length (Nat.le_refl _)
  have hbp := beg_pl n l hw l.length (Nat.le_refl _)
  have hpb := pl_beg n l hw p h1 h2 l.length (Nat.le_refl _)
  have hr := pl_rng hw h1 h2 l.length (Nat.le_refl _)
  generalize begT n l l.length = T at hok hbp hpb ⊢
  generalize hq : pl l p l.length = q at hpb hr ⊢
  have key : ∀ k, k ≤ n → q ≤ k → (endT T k).getD (p - 1) 0 = (q : Int) := by
    intro k
    induction k with
    | zero => intro _ h; omega
    | succ k ih =>
      intro hk hqk
      have hrk := hok.rng k (by omega)
      rw [endT_next, getD_setI, endT_len, hok.ln]
      by_cases e : q = k + 1
      · have e1 : T.getD k 0 = (p : Int) := by rw [← hpb, e]; rfl
        rw [if_pos ⟨by omega, by omega⟩]
        omega
      · by_cases e2 : p - 1 = (T.getD k 0 - 1).toNat
        · have e1 : T.getD k 0 = (p : Int) := by omega
          have := hbp k p (by omega) e1
          omega
        · rw [if_neg (fun x => e2 x.1)]
          exact ih (by omega) (by omega)
  exact key n (Nat.le_refl _) hr.2

/-- A place of a table, filled. -/
def up (G : Nat → Int) (c : Nat) (x : Int) : Nat → Int := fun j => if j = c then x else G j
theorem up_up (G : Nat → Int) (c : Nat) (x y : Int) : up (up G c x) c y = up G c y := by
  funext j
  unfold up
  split <;> rfl
/-- One crossing that a walk comes to: the arc in, and the next one out. -/
def rS (q : (Nat → Int) × Nat) (p : Nat × Nat) : (Nat → Int) × Nat := (up (up q.1 (4 * p.1 + p.2) ((q.2 + 1 : Nat) : Int)) (4 * p.1 + 2 + p.2) ((q.2 + 2 : Nat) : Int), q.2 + 1)
/-- The table behind a walk, behind b arcs. -/
def rG (G : Nat → Int) (b : Nat) (W : List (Nat × Nat)) : Nat → Int := (W.foldl rS (G, b)).1
theorem rS_snd (W : List (Nat × Nat)) (q : (Nat → Int) × Nat) : (W.foldl rS q).2 = q.2 + W.length := by
  induction W generalizing q with
  | nil => rfl
  | cons x W ih => rw [List.foldl_cons, ih, List.length_cons]; show q.2 + 1 + W.length = _; omega
theorem rG_app (G : Nat → Int) (b : Nat) (W : List (Nat × Nat)) (p : Nat × Nat) : rG G b (W ++ [p]) = up (up (rG G b W) (4 * p.1 + p.2) ((b + W.length + 1 : Nat) : Int)) (4 * p.1 + 2 + p.2) ((b + W.length + 2 : Nat) : Int) := by
  unfold rG
  rw [List.foldl_append]
  show (rS (W.foldl rS (G, b)) p).1 = _
  have e := rS_snd W (G, b)
  generalize W.foldl rS (G, b) = q at e ⊢
  obtain ⟨q1, q2⟩ := q
  obtain rfl : q2 = b + W.length := e
  rfl
/-- The last crossing of a walk. -/
def lastP (W : List (Nat × Nat)) : Nat × Nat := W.getD (W.length - 1) (0, 0)
/-- The table behind a closed walk. -/
def nG (G : Nat → Int) (b : Nat) (W : List (Nat × Nat)) : Nat → Int := if W.length = 0 then G else up (rG G b W) (4 * (lastP W).1 + 2 + (lastP W).2) ((b + 1 : Nat) : Int)
/-- The table behind i crossings, as closure.number lays it. -/
def nuTo (G : Nat → Int) (b : Nat) (W : List (Nat × Nat)) (i : Nat) : Nat → Int := if i < W.length then rG G b (W.take i) else nG G b W
theorem nuTo_zero (G : Nat → Int) (b : Nat) (W : List (Nat × Nat)) : nuTo G b W 0 = G := by
  unfold nuTo
  split
  · rfl
  · unfold nG
    rw [if_pos (by omega)]
theorem nuTo_all (G : Nat → Int) (b : Nat) (W : List (Nat × Nat)) : nuTo G b W W.length = nG G b W := by
  unfold nuTo
  rw [if_neg (Nat.lt_irrefl _)]
theorem getD_takeP (W : List (Nat × Nat)) (i : Nat) (h : i < W.length) : W.take (i + 1) = W.take i ++ [W.getD i (0, 0)] := by
  rw [List.take_succ_eq_append_getElem h, List.getD_eq_getElem?_getD, List.getElem?_eq_getElem h]
  rfl
theorem nuTo_next (G : Nat → Int) (b : Nat) (W : List (Nat × Nat)) (i : Nat) (h : i < W.length) : nuTo G b W (i + 1) = up (up (nuTo G b W i) (4 * (W.getD i (0, 0)).1 + (W.getD i (0, 0)).2) ((b + i + 1 : Nat) : Int)) (4 * (W.getD i (0, 0)).1 + 2 + (W.getD i (0, 0)).2) ((b + (i + 1) % W.length + 1 : Nat) : Int) := by
  have hl : (W.take i).length = i := by rw [List.length_take]; omega
  unfold nuTo
  rw [if_pos h]
  by_cases h2 : i + 1 < W.length
  · rw [if_pos h2, getD_takeP W i h, rG_app, hl, Nat.mod_eq_of_lt h2]
    rfl
  · rw [if_neg h2]
    unfold nG lastP
    rw [if_neg (by omega)]
    have e1 : W.length - 1 = i := by omega
    have e2 : (i + 1) % W.length = 0 := by rw [show i + 1 = W.length by omega]; exact Nat.mod_self _
    have e3 : W = W.take i ++ [W.getD i (0, 0)] := by rw [← getD_takeP W i h, List.take_of_length_le (by omega)]
    rw [e1, e2]
    generalize hq : W.getD i (0, 0) = q at e3 ⊢
    rw [show rG G b W = rG G b (W.take i ++ [q]) by rw [← e3], rG_app, up_up, hl]

/-- A flag set. -/
def upB (D : Nat → Bool) (p : Nat) : Nat → Bool := fun j => if j = p then true else D j
/-- How many places were not walked. -/
def cntF (D : Nat → Bool) : Nat := (if D 0 then 0 else 1) + (if D 1 then 0 else 1) + (if D 2 then 0 else 1) + (if D 3 then 0 else 1) + (if D 4 then 0 else 1) + (if D 5 then 0 else 1) + (if D 6 then 0 else 1)
theorem cntF_le (D : Nat → Bool) : cntF D ≤ 7 := by
  unfold cntF
  repeat' split
  all_goals omega
theorem cntF_up (D : Nat → Bool) (p : Nat) (hp : p < 7) (h : D p = false) : cntF (upB D p) + 1 = cntF D := by
  have : p = 0 ∨ p = 1 ∨ p = 2 ∨ p = 3 ∨ p = 4 ∨ p = 5 ∨ p = 6 := by omega
  unfold cntF upB
  rcases this with rfl | rfl | rfl | rfl | rfl | rfl | rfl <;> simp [h] <;> omega
/-- A ring of places, and what was walked behind it. -/
def rg (E : Nat → Nat) : Nat → (Nat → Bool) → Nat → List Nat × (Nat → Bool)
  | 0, D, _ => ([], D)
  | f + 1, D, p => if D p then ([], D) else (p :: (rg E f (upB D p) (E p)).1, (rg E f (upB D p) (E p)).2)
theorem rg_done (E : Nat → Nat) (f : Nat) (D : Nat → Bool) (p : Nat) (h : D p = true) : rg E f D p = ([], D) := by
  cases f with
  | zero => rfl
  | succ f => unfold rg; rw [if_pos h]
theorem rg_step (E : Nat → Nat) (f : Nat) (D : Nat → Bool) (p : Nat) (h : D p = false) : rg E (f + 1) D p = (p :: (rg E f (upB D p) (E p)).1, (rg E f (upB D p) (E p)).2) := by
  show (if D p then _ else _) = _
  rw [if_neg (by rw [h]; decide)]
theorem rg_len (E : Nat → Nat) : ∀ f D p, (rg E f D p).1.length ≤ f
  | 0, _, _ => Nat.le_refl _
  | f + 1, D, p => by
    cases h : D p with
    | true => rw [rg_done E _ D p h]; exact Nat.zero_le _
    | false => rw [rg_step E f D p h]; have := rg_len E f (upB D p) (E p); simp; omega
theorem rg_mem (E : Nat → Nat) (n : Nat) (hE : ∀ p, 1 ≤ p → p ≤ n → 1 ≤ E p ∧ E p ≤ n) : ∀ f D p, 1 ≤ p → p ≤ n → ∀ q ∈ (rg E f D p).1, 1 ≤ q ∧ q ≤ n
  | 0, _, _, _, _, q, h => by cases h
  | f + 1, D, p, h1, h2, q, h => by
    cases hd : D p with
    | true => rw [rg_done E _ D p hd] at h; cases h
    | false =>
      rw [rg_step E f D p hd] at h
      rcases List.mem_cons.1 h with rfl | h
      · exact ⟨h1, h2⟩
      · exact rg_mem E n hE f _ _ (hE p h1 h2).1 (hE p h1 h2).2 q h
/-- What stands of a ring while it is walked. -/
structure RgS (E : Nat → Nat) (n : Nat) (D : Nat → Bool) (p : Nat) (R : List Nat) (D' : Nat → Bool) (p' f : Nat) : Prop where
  few : cntF D' ≤ f
  ring : (rg E 7 D p).1 = R ++ (rg E f D' p').1
  done : (rg E 7 D p).2 = (rg E f D' p').2
  p1 : 1 ≤ p'
  p2 : p' ≤ n
theorem RgS.start (E : Nat → Nat) (n : Nat) (D : Nat → Bool) (p : Nat) (h1 : 1 ≤ p) (h2 : p ≤ n) : RgS E n D p [] D p 7 := ⟨cntF_le D, rfl, rfl, h1, h2⟩
theorem RgS.step {E : Nat → Nat} {n : Nat} {D : Nat → Bool} {p : Nat} {R : List Nat} {D' : Nat → Bool} {p' f : Nat} (h : RgS E n D p R D' p' f) (hn : n ≤ 6) (hE : ∀ p, 1 ≤ p → p ≤ n → 1 ≤ E p ∧ E p ≤ n) (hd : D' p' = false) : ∃ f', f = f' + 1 ∧ RgS E n D p (R ++ [p']) (upB D' p') (E p') f' := by
  have hc := cntF_up D' p' (by have := h.p2; omega) hd
  have hf := h.few
  obtain ⟨f', rfl⟩ : ∃ f', f = f' + 1 := ⟨f - 1, by omega⟩
  refine ⟨f', rfl, by omega, ?_, ?_, (hE p' h.p1 h.p2).1, (hE p' h.p1 h.p2).2⟩
  · rw [h.ring, rg_step E f' D' p' hd]; simp
  · rw [h.done, rg_step E f' D' p' hd]
theorem RgS.stop {E : Nat → Nat} {n : Nat} {D : Nat → Bool} {p : Nat} {R : List Nat} {D' : Nat → Bool} {p' f : Nat} (h : RgS E n D p R D' p' f) (hd : D' p' = true) : rg E 7 D p = (R, D') := by
  have h1 := h.ring
  have h2 := h.done
  rw [rg_done E f D' p' hd] at h1 h2
  rw [List.append_nil] at h1
  exact Prod.ext h1 h2
theorem RgS.len {E : Nat → Nat} {n : Nat} {D : Nat → Bool} {p : Nat} {R : List Nat} {D' : Nat → Bool} {p' f : Nat} (h : RgS E n D p R D' p' f) : R.length ≤ 7 := by
  have h1 := rg_len E 7 D p
  rw [h.ring, List.length_append] at h1
  omega
/-- The rings that begin at the first k places. -/
def rgs (E : Nat → Nat) : Nat → (Nat → Bool) × List (List Nat)
  | 0 => (fun _ => false, [])
  | k + 1 => ((rg E 7 (rgs E k).1 (k + 1)).2, if (rg E 7 (rgs E k).1 (k + 1)).1.length = 0 then (rgs E k).2 else (rgs E k).2 ++ [(rg E 7 (rgs E k).1 (k + 1)).1])
theorem rgs_len (E : Nat → Nat) : ∀ k, (rgs E k).2.length ≤ k
  | 0 => Nat.le_refl _
  | k + 1 => by
    have := rgs_len E k
    unfold rgs
    dsimp only
    split
    · omega
    · rw [List.length_append]; simp; omega
theorem rgs_mem (E : Nat → Nat) (n : Nat) (hE : ∀ p, 1 ≤ p → p ≤ n → 1 ≤ E p ∧ E p ≤ n) : ∀ k, k ≤ n → ∀ r ∈ (rgs E k).2, r.length ≤ 7 ∧ ∀ q ∈ r, 1 ≤ q ∧ q ≤ n
  | 0, _, r, h => by cases h
  | k + 1, hk, r, h => by
    unfold rgs at h
    dsimp only at h
    split at h
    · exact rgs_mem E n hE k (by omega) r h
    · rcases List.mem_append.1 h with h | h
      · exact rgs_mem E n hE k (by omega) r h
      · obtain rfl := List.mem_singleton.1 h
        exact ⟨rg_len _ _ _ _, rg_mem E n hE 7 _ _ (by omega) (by omega)⟩
/-- The walk of a ring. -/
def wk (l : List Int) (r : List Nat) : List (Nat × Nat) := r.flatMap fun p => cl l p l.length
theorem wk_app (l : List Int) (r : List Nat) (p : Nat) : wk l (r ++ [p]) = wk l r ++ cl l p l.length := by simp [wk]
theorem wk_len (l : List Int) : ∀ (r : List Nat), (wk l r).length ≤ r.length * l.length
  | [] => by simp [wk]
  | p :: r => by
    have h := wk_len l r
    have h1 := cl_len l p l.length
    have e : wk l (p :: r) = cl l p l.length ++ wk l r := by simp [wk]
    rw [e, List.length_append, List.length_cons, Nat.succ_mul]
    omega
theorem wk_mem (l : List Int) (r : List Nat) (q : Nat × Nat) (h : q ∈ wk l r) : q.1 < l.length ∧ q.2 < 2 := by
  obtain ⟨p, -, h⟩ := List.mem_flatMap.1 h
  exact cl_mem l p _ q h
/-- A ring laid: the table, arcs and loops. -/
def cS (l : List Int) (q : (Nat → Int) × Nat × Nat) (r : List Nat) : (Nat → Int) × Nat × Nat := (nG q.1 q.2.1 (wk l r), q.2.1 + (wk l r).length, q.2.2 + if (wk l r).length = 0 then 1 else 0)
/-- Rings laid one after the other. -/
def cF (l : List Int) (L : List (List Nat)) : (Nat → Int) × Nat × Nat := L.foldl (cS l) (fun _ => 0, 0, 0)
theorem cF_app (l : List Int) (L : List (List Nat)) (r : List Nat) : cF l (L ++ [r]) = cS l (cF l L) r := by unfold cF; rw [List.foldl_append]; rfl
theorem cF_le (l : List Int) (hl : l.length ≤ 16) (L : List (List Nat)) (h : ∀ r ∈ L, r.length ≤ 7) : ∀ k, k ≤ L.length → (cF l (L.take k)).2.1 ≤ 112 * k ∧ (cF l (L.take k)).2.2 ≤ k
  | 0, _ => ⟨Nat.zero_le _, Nat.zero_le _⟩
  | k + 1, hk => by
    have ih := cF_le l hl L h k (by omega)
    have hr := h (L[k]) (List.getElem_mem _)
    have hw := wk_len l (L[k])
    have hm : (L[k]).length * l.length ≤ 7 * 16 := Nat.mul_le_mul hr hl
    rw [List.take_succ_eq_append_getElem (by omega), cF_app]
    unfold cS
    dsimp only
    refine ⟨by omega, ?_⟩
    split <;> omega
/-- A crossing told. -/
def clX (l : List Int) (G : Nat → Int) (k : Nat) : Cr := if 0 < l.getD k 0 then ⟨G (4 * k + 1), G (4 * k + 2), G (4 * k + 3), G (4 * k), true⟩ else ⟨G (4 * k), G (4 * k + 1), G (4 * k + 2), G (4 * k + 3), false⟩
/-- What is closed. -/
def clC (l : List Int) (G : Nat → Int) (k : Nat) : List Cr := (List.range k).map (clX l G)
theorem clC_len (l : List Int) (G : Nat → Int) (k : Nat) : (clC l G k).length = k := by simp [clC]
theorem clC_next (l : List Int) (G : Nat → Int) (k : Nat) : clC l G (k + 1) = clC l G k ++ [clX l G k] := by simp [clC, List.range_succ]
end Go.Proofs.Ytfceigcjonlhkaa
