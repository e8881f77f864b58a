/- Several texts of the proof, one behind the other. -/
import Derived.Test.YthlmkoiilgjflaaGB8P
/- Words of a permutation braid: whichever is taken (Matsumoto); the normal form tells what a word does: plain mathematics. -/
namespace Go.Proofs.Ythlmkoiilgjflaa

theorem swp_braid (a j : Nat) : swp a (swp (a + 1) (swp a j)) = swp (a + 1) (swp a (swp (a + 1) j)) := by
  have o : ∀ i k, k ≠ i → k ≠ i + 1 → swp i k = k := fun i k h1 h2 => by unfold swp; rw [if_neg h1, if_neg h2]
  by_cases e1 : j = a
  · subst e1
    rw [swp_fst, swp_fst, o j (j + 1 + 1) (by omega) (by omega), o (j + 1) j (by omega) (by omega), swp_fst, swp_fst]
  · by_cases e2 : j = a + 1
    · subst e2
      rw [swp_snd, o (a + 1) a (by omega) (by omega), swp_fst, swp_fst, o a (a + 1 + 1) (by omega) (by omega), swp_snd]
    · by_cases e3 : j = a + 1 + 1
      · subst e3
        rw [o a (a + 1 + 1) (by omega) (by omega), swp_snd, swp_snd, o (a + 1) a (by omega) (by omega)]
      · rw [o a j e1 e2, o (a + 1) j e2 e3, o a j e1 e2, o (a + 1) j e2 e3]
theorem swp_out {i k : Nat} (h1 : k ≠ i) (h2 : k ≠ i + 1) : swp i k = k := by unfold swp; rw [if_neg h1, if_neg h2]
/-- A word of letters, none too many. -/
inductive Rw (n : Nat) : List Nat → List Nat → Prop
  | nil : Rw n (pid n) []
  | cons {x w : List Nat} {i : Nat} : IsP n x → i + 1 < n → pa x (i + 1) < pa x i → Rw n (psw n x i) w → Rw n x (i :: w)
theorem Rw.isP {n : Nat} {x w : List Nat} (h : Rw n x w) : IsP n x := by
  cases h with
  | nil => exact isP_pid n
  | cons h1 _ _ _ => exact h1
theorem pw_more {n m i : Nat} {x : List Nat} (hx : IsP n x) (hm : n * (n * n) ≤ m + pw (pa x) n) (hi : i + 1 < n) (h : pa x (i + 1) < pa x i) : ∃ m', m = m' + 1 ∧ n * (n * n) ≤ m' + pw (pa (psw n x i)) n := by
  have h3 := pw_swp h (n - (i + 2))
  rw [show i + 2 + (n - (i + 2)) = n by omega] at h3
  have h5 := pw_le (f := fun j => pa x (swp i j)) n (Nat.le_refl n) (fun j hj => hx.lt _ (swp_lt hi hj))
  refine ⟨m - 1, by omega, ?_⟩
  rw [pw_congr (f := pa (psw n x i)) (g := fun j => pa x (swp i j)) n (fun j hj => psw_at hj)]
  omega
theorem rw_ex {n : Nat} : ∀ m x, IsP n x → n * (n * n) ≤ m + pw (pa x) n → ∃ w, Rw n x w := by
  intro m
  induction m with
  | zero =>
    intro x hx hm
    by_cases h : ∃ i, i + 1 < n ∧ pa x (i + 1) < pa x i
    · obtain ⟨i, hi, hlt⟩ := h
      obtain ⟨m', e, -⟩ := pw_more hx hm hi hlt
      omega
    · rw [sd_id hx (fun i hi hlt => (h ⟨i, hi, hlt⟩).elim)]
      exact ⟨[], .nil⟩
  | succ m ih =>
    intro x hx hm
    by_cases h : ∃ i, i + 1 < n ∧ pa x (i + 1) < pa x i
    · obtain ⟨i, hi, hlt⟩ := h
      obtain ⟨m', e, h4⟩ := pw_more hx hm hi hlt
      obtain rfl : m = m' := by omega
      obtain ⟨w, hw⟩ := ih _ (isP_psw hi hx) h4
      exact ⟨i :: w, .cons hx hi hlt hw⟩
    · rw [sd_id hx (fun i hi hlt => (h ⟨i, hi, hlt⟩).elim)]
      exact ⟨[], .nil⟩
theorem rw_any {n : Nat} {x : List Nat} (hx : IsP n x) : ∃ w, Rw n x w := rw_ex (n * (n * n)) x hx (by omega)
/-- As letters of the program. -/
def lw (w : List Nat) : List Int := w.map fun i => ((i + 1 : Nat) : Int)
theorem Rw.lt {n : Nat} {x w : List Nat} (h : Rw n x w) : ∀ z ∈ lw w, LtN n z := by
  induction h with
  | nil => intro z hz; cases hz
  | cons _ hi _ _ ih =>
    intro z hz
    rcases List.mem_cons.1 hz with e | e
    · rw [e]; exact ltN_pos hi
    · exact ih z e
/-- Where two letters can be first. -/
theorem rw_near {n i : Nat} {x : List Nat} (hx : IsP n x) (hi : i + 1 + 1 < n) (h1 : pa x (i + 1) < pa x i) (h2 : pa x (i + 1 + 1) < pa x (i + 1)) : ∃ w, Rw n (psw n x i) ((i + 1) :: i :: w) ∧ Rw n (psw n x (i + 1)) (i :: (i + 1) :: w) := by
  have hi0 : i + 1 < n := by omega
  have p1 := isP_psw hi0 hx
  have p2 := isP_psw hi hx
  have p3 := isP_psw hi p1
  have p4 := isP_psw hi0 p2
  obtain ⟨w, hw⟩ := rw_any (isP_psw hi0 p3)
  have e : psw n (psw n (psw n x (i + 1)) i) (i + 1) = psw n (psw n (psw n x i) (i + 1)) i := pa_ext (pk_len _ _) (pk_len _ _) fun j hj => by
    have k1 := swp_lt hi hj
    have k2 := swp_lt hi0 hj
    rw [psw_at hj, psw_at k1, psw_at (swp_lt hi0 k1), psw_at hj, psw_at k2, psw_at (swp_lt hi k2), swp_braid]
  refine ⟨w, .cons p1 hi ?_ (.cons p3 hi0 ?_ hw), .cons p2 hi0 ?_ (.cons p4 hi ?_ (by rw [e]; exact hw))⟩
  · rw [psw_at hi, psw_at hi0, swp_out (by omega) (by omega), swp_snd]; omega
  · rw [psw_at hi0, psw_at (show i < n by omega), swp_fst, swp_out (i := i + 1) (k := i) (by omega) (by omega), psw_at hi, psw_at (show i < n by omega), swp_out (i := i) (k := i + 1 + 1) (by omega) (by omega), swp_fst]; omega
  · rw [psw_at hi0, psw_at (show i < n by omega), swp_fst, swp_out (i := i + 1) (k := i) (by omega) (by omega)]; omega
  · rw [psw_at hi, psw_at hi0, swp_out (i := i) (k := i + 1 + 1) (by omega) (by omega), swp_snd, psw_at hi, psw_at (show i < n by omega), swp_snd, swp_out (i := i + 1) (k := i) (by omega) (by omega)]; omega
theorem rw_far {n i j : Nat} {x : List Nat} (hx : IsP n x) (hi : i + 1 < n) (hj : j + 1 < n) (hij : i + 1 < j ∨ j + 1 < i) (h1 : pa x (i + 1) < pa x i) (h2 : pa x (j + 1) < pa x j) : ∃ w, Rw n (psw n x i) (j :: w) ∧ Rw n (psw n x j) (i :: w) := by
  have p1 := isP_psw hi hx
  have p2 := isP_psw hj hx
  obtain ⟨w, hw⟩ := rw_any (isP_psw hj p1)
  have e : psw n (psw n x j) i = psw n (psw n x i) j := pa_ext (pk_len _ _) (pk_len _ _) fun k hk => by
    rw [psw_at hk, psw_at (swp_lt hi hk), psw_at hk, psw_at (swp_lt hj hk)]
    congr 1
    unfold swp
    (repeat' split) <;> omega
  refine ⟨w, .cons p1 hj ?_ hw, .cons p2 hi ?_ (by rw [e]; exact hw)⟩
  · rw [psw_at hj, psw_at (show j < n by omega), swp_out (by omega) (by omega), swp_out (by omega) (by omega)]; exact h2
  · rw [psw_at hi, psw_at (show i < n by omega), swp_out (by omega) (by omega), swp_out (by omega) (by omega)]; exact h1
/-- MATSUMOTO: whichever word is taken. -/
theorem mts {σ : Type} {f : σ → Int → σ} {ok : σ → Prop} {n : Nat} (h : Bact σ f ok n) : ∀ m x w w', n * (n * n) ≤ m + pw (pa x) n → Rw n x w → Rw n x w' → ∀ S, ok S → (lw w).foldl f S = (lw w').foldl f S := by
  have no : ∀ i, i + 1 < n → ¬ pa (pid n) (i + 1) < pa (pid n) i := fun i hi => by rw [pid_at hi, pid_at (by omega)]; omega
  intro m
  induction m with
  | zero =>
    intro x w w' hm h1 h2 S hS
    cases h1 with
    | nil =>
      cases h2 with
      | nil => rfl
      | cons _ hi hlt _ => exact (no _ hi hlt).elim
    | cons hx hi hlt _ =>
      obtain ⟨m', e, -⟩ := pw_more hx hm hi hlt
      omega
  | succ m ih =>
    intro x w w' hm h1 h2 S hS
    cases h1 with
    | nil =>
      cases h2 with
      | nil => rfl
      | cons _ hi hlt _ => exact (no _ hi hlt).elim
    | @cons _ w1 i hx hi hlt hr1 =>
      cases h2 with
      | nil => exact (no _ hi hlt).elim
      | @cons _ w2 j _ hj hlt2 hr2 =>
        obtain ⟨m1, e1, k1⟩ := pw_more hx hm hi hlt
        obtain ⟨m2, e2, k2⟩ := pw_more hx hm hj hlt2
        obtain rfl : m = m1 := by omega
        obtain rfl : m = m2 := by omega
        have s1 := h.step S _ hS (ltN_pos hi)
        have s2 := h.step S _ hS (ltN_pos hj)
        show (lw w1).foldl f (f S ((i + 1 : Nat) : Int)) = (lw w2).foldl f (f S ((j + 1 : Nat) : Int))
        by_cases e : i = j
        · subst e
          exact ih _ _ _ k1 hr1 hr2 _ s1
        · by_cases e3 : i + 1 = j
          · subst e3
            obtain ⟨w3, r1, r2⟩ := rw_near hx hj hlt hlt2
            rw [ih _ _ _ k1 hr1 r1 _ s1, ih _ _ _ k2 hr2 r2 _ s2]
            show (lw w3).foldl f (f (f (f S _) _) _) = (lw w3).foldl f (f (f (f S _) _) _)
            rw [h.near S i (i + 1) hS hi hj (Or.inl rfl)]
          · by_cases e4 : j + 1 = i
            · subst e4
              obtain ⟨w3, r1, r2⟩ := rw_near hx hi hlt2 hlt
              rw [ih _ _ _ k1 hr1 r2 _ s1, ih _ _ _ k2 hr2 r1 _ s2]
              show (lw w3).foldl f (f (f (f S _) _) _) = (lw w3).foldl f (f (f (f S _) _) _)
              rw [h.near S (j + 1) j hS hi hj (Or.inr rfl)]
            · obtain ⟨w3, r1, r2⟩ := rw_far hx hi hj (by omega) hlt hlt2
              rw [ih _ _ _ k1 hr1 r1 _ s1, ih _ _ _ k2 hr2 r2 _ s2]
              show (lw w3).foldl f (f (f S _) _) = (lw w3).foldl f (f (f S _) _)
              rw [h.far S i j hS hi hj (by omega)]
theorem rw_app {n : Nat} {x w1 : List Nat} (h1 : Rw n x w1) : ∀ {y w2 : List Nat}, Rw n y w2 → Add n x y → Rw n (pm n x y) (w1 ++ w2) := by
  induction h1 with
  | nil => intro y w2 h2 _; rw [pid_pm h2.isP]; exact h2
  | @cons x w i hx hi hlt hr ih =>
    intro y w2 h2 ha
    have hy := h2.isP
    have e : psw n (pm n x y) i = pm n (psw n x i) y := pa_ext (pk_len _ _) (pk_len _ _) fun j hj => by rw [psw_at hj, pm_at (swp_lt hi hj), pm_at hj, psw_at hj]
    refine .cons (hx.pm hy) hi ?_ ?_
    · rw [pm_at hi, pm_at (show i < n by omega)]; exact ha i (i + 1) (by omega) hi hlt
    · rw [e]
      refine ih h2 fun a b hab hb hl => ?_
      have ha' : a < n := by omega
      rw [psw_at hb, psw_at ha'] at hl ⊢
      by_cases e2 : a = i ∧ b = i + 1
      · rw [e2.1, e2.2, swp_fst, swp_snd] at hl; omega
      · exact ha _ _ (swp_mono hab e2) (swp_lt hi hb) hl
end Go.Proofs.Ythlmkoiilgjflaa
/- Words of one normal form do the same: plain mathematics. -/
namespace Go.Proofs.Ythlmkoiilgjflaa

/-- Letters that act, and a word for each permutation. -/
structure Ba (σ : Type) (f : σ → Int → σ) (ok : σ → Prop) (n : Nat) (wd : List Nat → List Nat) : Prop where
  act : Bact σ f ok n
  word : ∀ x, IsP n x → Rw n x (wd x)
  n2 : 2 ≤ n
/-- What a permutation does. -/
def ev {σ : Type} (f : σ → Int → σ) (wd : List Nat → List Nat) (S : σ) (x : List Nat) : σ := (lw (wd x)).foldl f S
def evW {σ : Type} (f : σ → Int → σ) (wd : List Nat → List Nat) (S : σ) : List (List Nat) → σ
  | [] => S
  | x :: F => ev f wd (evW f wd S F) x
def itD {σ : Type} (f : σ → Int → σ) (wd : List Nat → List Nat) (n : Nat) : Nat → σ → σ
  | 0, S => S
  | k + 1, S => ev f wd (itD f wd n k S) (pdl n)
section
variable {σ : Type} {f : σ → Int → σ} {ok : σ → Prop} {n : Nat} {wd : List Nat → List Nat} (h : Ba σ f ok n wd)
include h
theorem Ba.okE {S : σ} (hS : ok S) {x : List Nat} (hx : IsP n x) : ok (ev f wd S x) := h.act.fold hS (h.word x hx).lt
theorem Ba.any {S : σ} (hS : ok S) {x w : List Nat} (hw : Rw n x w) : (lw w).foldl f S = ev f wd S x := mts h.act (n * (n * n)) x w (wd x) (by omega) hw (h.word x hw.isP) S hS
theorem Ba.idn {S : σ} (hS : ok S) : ev f wd S (pid n) = S := (h.any hS .nil).symm
theorem Ba.gen {S : σ} (hS : ok S) {i : Nat} (hi : i + 1 < n) : ev f wd S (psg n i) = f S ((i + 1 : Nat) : Int) := by
  have hw : Rw n (psg n i) [i] := by
    refine .cons (isP_psg hi) hi ?_ ?_
    · rw [psg_at hi, psg_at (show i < n by omega), swp_fst, swp_snd]; omega
    · have e : psw n (psg n i) i = pid n := pa_ext (pk_len _ _) (pk_len _ _) fun j hj => by rw [psw_at hj, psg_at (swp_lt hi hj), swp_swp, pid_at hj]
      rw [e]
      exact .nil
  exact (h.any hS hw).symm
theorem Ba.mul {S : σ} (hS : ok S) {x y : List Nat} (hx : IsP n x) (hy : IsP n y) (ha : Add n x y) : ev f wd (ev f wd S x) y = ev f wd S (pm n x y) := by
  rw [← h.any hS (rw_app (h.word x hx) (h.word y hy) ha)]
  unfold ev lw
  rw [List.map_append, List.foldl_append]
theorem Ba.okL {S : σ} (hS : ok S) : ∀ {F : List (List Nat)}, AllP n F → ok (evW f wd S F)
  | [], _ => hS
  | x :: _, hF => h.okE (Ba.okL hS (fun z hz => hF z (.tail _ hz))) (hF x (.head _))
theorem Ba.okD {S : σ} (hS : ok S) : ∀ k, ok (itD f wd n k S)
  | 0 => hS
  | k + 1 => h.okE (Ba.okD hS k) (isP_pdl n)
theorem Ba.pasE {S : σ} (hS : ok S) : ∀ {F : List (List Nat)} {y : List Nat}, AllP n F → IsP n y → evW f wd S (pas n F y) = ev f wd (evW f wd S F) y
  | [], _, _, _ => rfl
  | g :: F, y, hF, hy => by
    have hg := hF g (.head _)
    have hF' : AllP n F := fun z hz => hF z (.tail _ hz)
    obtain ⟨p, p1, p2, p3, p4, p5, p6, -⟩ := stl_settle hg hy
    have hk := h.okL hS hF'
    show ev f wd (evW f wd S (pas n F (settle n g y).1)) (settle n g y).2 = ev f wd (ev f wd (evW f wd S F) g) y
    rw [Ba.pasE hS hF' (isP_settle hg hy).1, p3, ← h.mul hk hg p1 p5, h.mul (h.okE hk hg) p1 p2 p6, ← p4]
omit h in
theorem evW_dl {S : σ} {F : List (List Nat)} (hF : AllP n F) (hs : SetL n (pdl n :: F)) : evW f wd S F = itD f wd n F.length S := by
  induction F with
  | nil => rfl
  | cons e F ih =>
    obtain rfl : e = pdl n := sd_dl (hF e (.head _)) (hs.1 e rfl)
    show ev f wd (evW f wd S F) (pdl n) = ev f wd (itD f wd n F.length S) (pdl n)
    rw [ih (fun z hz => hF z (.tail _ hz)) hs.2]
theorem Ba.nfE {S : σ} (hS : ok S) : ∀ {F : List (List Nat)}, AllP n F → SetL n F → evW f wd S F = evW f wd (itD f wd n (nfL n F).1 S) (nfL n F).2
  | [], _, _ => rfl
  | g :: F, hF, hs => by
    have hF' : AllP n F := fun z hz => hF z (.tail _ hz)
    by_cases g1 : g = pdl n
    · subst g1
      have e1 : nfL n (pdl n :: F) = (F.length + 1, []) := by
        show (if pdl n = pdl n then ((nfL n F).1 + 1, (nfL n F).2) else _) = _
        rw [if_pos rfl, (nf_dl hF' hs).1]
      rw [e1]
      show ev f wd (evW f wd S F) (pdl n) = itD f wd n (F.length + 1) S
      rw [evW_dl hF' hs]
      rfl
    · by_cases g2 : g = pid n
      · subst g2
        rw [nf_idl g1]
        show ev f wd (evW f wd S F) (pid n) = _
        rw [h.idn (h.okL hS hF')]
        exact Ba.nfE hS hF' hs.2
      · rw [nf_new g1 g2]
        show ev f wd (evW f wd S F) g = ev f wd (evW f wd _ (nfL n F).2) g
        rw [Ba.nfE hS hF' hs.2]
/-- Past Delta. -/
theorem Ba.tau {S : σ} (hS : ok S) {x : List Nat} (hx : IsP n x) : ev f wd (ev f wd S (pta n x)) (pdl n) = ev f wd (ev f wd S (pdl n)) x := by
  have ht := isP_pta hx
  have hy := ht.pv.pm (isP_pdl n)
  have e1 : pm n (pta n x) (pm n (pv n (pta n x)) (pdl n)) = pdl n := by rw [← pm_assoc ht, pm_pv ht, pid_pm (isP_pdl n)]
  have e2 : pm n (pm n (pv n (pta n x)) (pdl n)) x = pdl n := by
    rw [pm_assoc ht.pv]
    have e3 : pm n (pdl n) x = pm n (pta n x) (pdl n) := pa_ext (pk_len _ _) (pk_len _ _) fun j hj => by
      have := hx.lt (n - 1 - j) (by omega)
      rw [pm_at hj, pdl_at hj, pm_at hj, pta_at hj, pdl_at (by omega)]
      omega
    rw [e3, ← pm_assoc ht.pv, pv_pm_self ht, pid_pm (isP_pdl n)]
  have o1 := h.okE hS ht
  rw [← e1, ← h.mul hS ht hy (add_dl e1), h.mul o1 hy hx (add_dl e2), e2, e1]
theorem Ba.mapE {S : σ} (hS : ok S) : ∀ {F : List (List Nat)}, AllP n F → ev f wd (evW f wd S (F.map (pta n))) (pdl n) = evW f wd (ev f wd S (pdl n)) F
  | [], _ => rfl
  | g :: F, hF => by
    have hg := hF g (.head _)
    have hF' : AllP n F := fun z hz => hF z (.tail _ hz)
    have hM : AllP n (F.map (pta n)) := fun z hz => by
      obtain ⟨y, hy, rfl⟩ := List.mem_map.1 hz
      exact isP_pta (hF' y hy)
    show ev f wd (ev f wd (evW f wd S (F.map (pta n))) (pta n g)) (pdl n) = ev f wd (evW f wd (ev f wd S (pdl n)) F) g
    rw [h.tau (h.okL hS hM) hg, Ba.mapE hS hF']
theorem Ba.back : ∀ {w : List Int}, (∀ z ∈ w, LtN n z) → ∀ S, ok S → ∃ T, ok T ∧ w.foldl f T = S
  | [], _, S, hS => ⟨S, hS, rfl⟩
  | x :: w, hw, S, hS => by
    obtain ⟨T, hT, e⟩ := Ba.back (w := w) (fun z hz => hw z (.tail _ hz)) S hS
    have hx := hw x (.head _)
    refine ⟨f T (-x), h.act.step T _ hT (ltN_neg hx), ?_⟩
    show w.foldl f (f (f T (-x)) x) = S
    have := h.act.neg T (-x) hT (ltN_neg hx)
    rw [Int.neg_neg] at this
    rw [this, e]
theorem Ba.inj : ∀ {w : List Int}, (∀ z ∈ w, LtN n z) → ∀ S T, ok S → ok T → w.foldl f S = w.foldl f T → S = T
  | [], _, _, _, _, _, e => e
  | x :: w, hw, S, T, hS, hT, e => by
    have hx := hw x (.head _)
    have := Ba.inj (w := w) (fun z hz => hw z (.tail _ hz)) (f S x) (f T x) (h.act.step S x hS hx) (h.act.step T x hT hx) e
    rw [← h.act.neg S x hS hx, this, h.act.neg T x hT hx]
omit h in
theorem itD_add (S : σ) (a : Nat) : ∀ b, itD f wd n (a + b) S = itD f wd n b (itD f wd n a S)
  | 0 => rfl
  | b + 1 => by show ev f wd (itD f wd n (a + b) S) (pdl n) = _; rw [itD_add S a b]; rfl
theorem Ba.itD_inj {S T : σ} (hS : ok S) (hT : ok T) : ∀ k, itD f wd n k S = itD f wd n k T → S = T
  | 0, e => e
  | k + 1, e => Ba.itD_inj hS hT k (h.inj (h.word _ (isP_pdl n)).lt _ _ (h.okD hS k) (h.okD hT k) e)
/-- The normal form tells what a word does. -/
theorem Ba.tells {S : σ} (hS : ok S) (w : List Int) (hw : ∀ z ∈ w, LtN n z) : ∃ (a b : Nat) (T : σ), ok T ∧ (nfW n w).1 = (a : Int) - b ∧ itD f wd n a S = itD f wd n b T ∧ w.foldl f S = evW f wd T (nfW n w).2 := by
  have key : ∀ k, k ≤ w.length → ∃ (a b : Nat) (T : σ), ok T ∧ (nfW n (w.take k)).1 = (a : Int) - b ∧ itD f wd n a S = itD f wd n b T ∧ (w.take k).foldl f S = evW f wd T (nfW n (w.take k)).2 := by
    intro k
    induction k with
    | zero => intro _; exact ⟨0, 0, S, hS, rfl, rfl, rfl⟩
    | succ k ih =>
      intro hk
      obtain ⟨a, b, T, hT, h1, h2, h3⟩ := ih (by omega)
      have hC : CanS n (nfW n (w.take k)) := canS_nfW (fun z hz => hw z (List.mem_of_mem_take hz))
      have ht : w.take (k + 1) = w.take k ++ [w.getD k 0] := by
        rw [List.take_succ_eq_append_getElem (by omega), List.getD_eq_getElem?_getD, List.getElem?_eq_getElem (by omega)]
        rfl
      have hx : LtN n (w.getD k 0) := by
        rw [List.getD_eq_getElem?_getD, List.getElem?_eq_getElem (by omega)]
        exact hw _ (List.getElem_mem _)
      have e1 : nfW n (w.take (k + 1)) = cst n (nfW n (w.take k)) (w.getD k 0) := by
        rw [ht]; unfold nfW; rw [List.foldl_append]; rfl
      have e2 : (w.take (k + 1)).foldl f S = f ((w.take k).foldl f S) (w.getD k 0) := by
        rw [ht, List.foldl_append]; rfl
      rw [e1, e2, h3]
      generalize w.getD k 0 = x at hx ⊢
      generalize nfW n (w.take k) = N at hC h1 h3 ⊢
      have hx1 := hx.1
      have hx2 := hx.2
      obtain ⟨i, hi⟩ : ∃ i, x.natAbs = i + 1 := ⟨x.natAbs - 1, by omega⟩
      have hin : i + 1 < n := by omega
      unfold cst
      by_cases hp : 0 < x
      · rw [if_pos hp, hi, Nat.add_sub_cancel]
        have hg := isP_psg (n := n) hin
        refine ⟨a + (nfL n (Go.Proofs.Ythlmkoiilgjflaa.pas n N.2 (psg n i))).1, b, itD f wd n (nfL n (Go.Proofs.Ythlmkoiilgjflaa.pas n N.2 (psg n i))).1 T, h.okD hT _, ?_, ?_, ?_⟩
        · show N.1 + ((nfL n (Go.Proofs.Ythlmkoiilgjflaa.pas n N.2 (psg n i))).1 : Nat) = _
          omega
        · rw [itD_add, h2, ← itD_add, ← itD_add, Nat.add_comm]
        · show _ = evW f wd _ (nfL n (Go.Proofs.Ythlmkoiilgjflaa.pas n N.2 (psg n i))).2
          rw [← h.nfE hT (pas_all hC.all hg) (pas_set hC.all hC.set hg), h.pasE hT hC.all hg, h.gen (h.okL hT hC.all) hin]
          congr 1
          omega
      · rw [if_neg hp, hi, Nat.add_sub_cancel]
        have hg := isP_pdg (n := n) hin
        obtain ⟨T', hT', eT⟩ := h.back (h.word _ (isP_pdl n)).lt T hT
        have hD : ev f wd T' (pdl n) = T := eT
        have hM := hC.tws
        have hMa : AllP n (N.2.map (pta n)) := hM.all
        have hMs : SetL n (N.2.map (pta n)) := hM.set
        refine ⟨a + (nfL n (Go.Proofs.Ythlmkoiilgjflaa.pas n (N.2.map (pta n)) (pdg n i))).1, b + 1, itD f wd n (nfL n (Go.Proofs.Ythlmkoiilgjflaa.pas n (N.2.map (pta n)) (pdg n i))).1 T', h.okD hT' _, ?_, ?_, ?_⟩
        · show N.1 - 1 + ((nfL n (Go.Proofs.Ythlmkoiilgjflaa.pas n (N.2.map (pta n)) (pdg n i))).1 : Nat) = _
          omega
        · have e5 : itD f wd n b T = itD f wd n (1 + b) T' := by rw [itD_add T' 1 b]; show _ = itD f wd n b (ev f wd T' (pdl n)); rw [hD]
          rw [itD_add, h2, e5, ← itD_add, ← itD_add]
          congr 1
          omega
        · show _ = evW f wd _ (nfL n (Go.Proofs.Ythlmkoiilgjflaa.pas n (N.2.map (pta n)) (pdg n i))).2
          rw [← h.nfE hT' (pas_all hMa hg) (pas_set hMa hMs hg), h.pasE hT' hMa hg]
          have e6 := h.mapE hT' hC.all
          rw [hD] at e6
          have o1 := h.okL hT' hMa
          have o2 := h.okE o1 hg
          have e7 : f (ev f wd (evW f wd T' (N.2.map (pta n))) (pdg n i)) ((i + 1 : Nat) : Int) = evW f wd T N.2 := by
            rw [← h.gen o2 hin, h.mul o1 hg (isP_psg hin) (add_dl (pdg_psg hin)), pdg_psg hin, e6]
          rw [← e7]
          have e8 : x = -((i + 1 : Nat) : Int) := by omega
          rw [e8]
          exact h.act.neg _ _ o2 (ltN_pos hin)
  have := key w.length (Nat.le_refl _)
  rwa [List.take_length] at this
/-- WORDS OF ONE NORMAL FORM DO THE SAME. -/
theorem Ba.same {S : σ} (hS : ok S) {u v : List Int} (hu : ∀ z ∈ u, LtN n z) (hv : ∀ z ∈ v, LtN n z) (e : nfW n u = nfW n v) : u.foldl f S = v.foldl f S := by
  obtain ⟨a, b, T, hT, h1, h2, h3⟩ := h.tells hS u hu
  obtain ⟨c, d, U, hU, h4, h5, h6⟩ := h.tells hS v hv
  rw [e] at h1 h3
  have k1 : itD f wd n (b + d) T = itD f wd n (a + d) S := by rw [itD_add, ← h2, ← itD_add]
  have k2 : itD f wd n (d + b) U = itD f wd n (c + b) S := by rw [itD_add, ← h5, ← itD_add]
  have hTU : T = U := by
    refine h.itD_inj hT hU (b + d) ?_
    rw [k1, show b + d = d + b by omega, k2]
    congr 1
    omega
  rw [h3, h6, hTU]
end
/-- Words that are one braid. -/
def Sm (n : Nat) (u v : List Int) : Prop := ∀ (σ : Type) (f : σ → Int → σ) (ok : σ → Prop), Bact σ f ok n → ∀ S, ok S → u.foldl f S = v.foldl f S
theorem sm_of {n : Nat} (h2 : 2 ≤ n) {u v : List Int} (hu : ∀ z ∈ u, LtN n z) (hv : ∀ z ∈ v, LtN n z) (e : nfW n u = nfW n v) : Sm n u v := by
  intro σ f ok h S hS
  have hc : ∃ wd : List Nat → List Nat, ∀ x, IsP n x → Rw n x (wd x) := by
    refine ⟨fun x => @dite _ (IsP n x) (Classical.propDecidable _) (fun hx => Classical.choose (rw_any hx)) (fun _ => []), fun x hx => ?_⟩
    show Rw n x (@dite _ (IsP n x) (Classical.propDecidable _) (fun hx => Classical.choose (rw_any hx)) (fun _ => []))
    rw [dif_pos hx]
    exact Classical.choose_spec (rw_any hx)
  obtain ⟨wd, hwd⟩ := hc
  exact Ba.same ⟨h, hwd, h2⟩ hS hu hv e
theorem Sm.nf {n : Nat} (h2 : 2 ≤ n) {u v : List Int} (h : Sm n u v) : nfW n u = nfW n v := h _ _ _ (bact_nf h2) _ (canS_nil n 0)
theorem Sm.act {n : Nat} {u v : List Int} (h : Sm n u v) : actT n u u.length = actT n v v.length := by
  rw [actT_all, actT_all]
  exact h _ _ _ bact_act _ (act0_red n)
end Go.Proofs.Ythlmkoiilgjflaa
