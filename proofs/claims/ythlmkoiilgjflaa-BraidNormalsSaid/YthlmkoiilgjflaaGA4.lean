/- What letters make of normal forms: relations of braids: plain mathematics. -/
import Derived.Test.YthlmkoiilgjflaaW6P
namespace Go.Proofs.Ythlmkoiilgjflaa

/-- A normal form. -/
structure CanS (n : Nat) (S : Int × List (List Nat)) : Prop where
  all : AllP n S.2
  set : SetL n S.2
  no : ∀ x ∈ S.2, x ≠ pdl n ∧ x ≠ pid n
/-- A permutation braid behind it. -/
def psh (n : Nat) (S : Int × List (List Nat)) (y : List Nat) : Int × List (List Nat) := (S.1 + ((nfL n (pas n S.2 y)).1 : Nat), (nfL n (pas n S.2 y)).2)
/-- Delta to the power of -1 behind it. -/
def tws (n : Nat) (S : Int × List (List Nat)) : Int × List (List Nat) := (S.1 - 1, S.2.map (pta n))
/-- Delta without a letter at its end. -/
def pdg (n i : Nat) : List Nat := pm n (pdl n) (psg n i)
/-- What a letter makes of a normal form. -/
def cst (n : Nat) (S : Int × List (List Nat)) (x : Int) : Int × List (List Nat) := if 0 < x then psh n S (psg n (x.natAbs - 1)) else psh n (tws n S) (pdg n (x.natAbs - 1))
/-- The normal form of a word. -/
def nfW (n : Nat) (w : List Int) : Int × List (List Nat) := w.foldl (cst n) (0, [])
theorem canS_nil (n : Nat) (p : Int) : CanS n (p, []) := ⟨fun _ h => (nomatch h), trivial, fun _ h => (nomatch h)⟩
theorem CanS.psh {n : Nat} {S : Int × List (List Nat)} (h : CanS n S) {y : List Nat} (hy : IsP n y) : CanS n (psh n S y) :=
  ⟨fun x hx => pas_all h.all hy x (nf_mem hx).1, nf_set (pas_all h.all hy) (pas_set h.all h.set hy), fun _ hx => (nf_mem hx).2⟩
theorem pta_pdl {n : Nat} : pta n (pdl n) = pdl n := pa_ext (pk_len _ _) (pk_len _ _) fun i hi => by rw [pta_at hi, pdl_at (by omega), pdl_at hi]; omega
theorem pta_pid {n : Nat} : pta n (pid n) = pid n := pa_ext (pk_len _ _) (pk_len _ _) fun i hi => by rw [pta_at hi, pid_at (by omega), pid_at hi]; omega
theorem pta_inj {n : Nat} {x y : List Nat} (hx : IsP n x) (hy : IsP n y) (h : pta n x = pta n y) : x = y := by rw [← pta_pta hx, h, pta_pta hy]
theorem set_map {n : Nat} : ∀ {F : List (List Nat)}, AllP n F → SetL n F → SetL n (F.map (pta n))
  | [], _, _ => trivial
  | f :: F, hF, hs => by
    refine ⟨fun e he => ?_, set_map (fun z hz => hF z (.tail _ hz)) hs.2⟩
    cases F with
    | nil => cases he
    | cons g F =>
      obtain rfl : pta n g = e := Option.some.inj he
      exact sd_pta (hF g (.tail _ (.head _))) (hF f (.head _)) (hs.1 g rfl)
theorem CanS.tws {n : Nat} {S : Int × List (List Nat)} (h : CanS n S) : CanS n (tws n S) := by
  refine ⟨fun x hx => ?_, set_map h.all h.set, fun x hx => ?_⟩
  · obtain ⟨y, hy, rfl⟩ := List.mem_map.1 hx
    exact isP_pta (h.all y hy)
  · obtain ⟨y, hy, rfl⟩ := List.mem_map.1 hx
    refine ⟨fun e => (h.no y hy).1 (pta_inj (h.all y hy) (isP_pdl n) (by rw [e, pta_pdl])), fun e => (h.no y hy).2 (pta_inj (h.all y hy) (isP_pid n) (by rw [e, pta_pid]))⟩
theorem isP_pdg {n i : Nat} (hi : i + 1 < n) : IsP n (pdg n i) := (isP_pdl n).pm (isP_psg hi)
/-- A letter of n strands. -/
def LtN (n : Nat) (x : Int) : Prop := 1 ≤ x.natAbs ∧ x.natAbs < n
theorem CanS.cst {n : Nat} {S : Int × List (List Nat)} (h : CanS n S) {x : Int} (hx : LtN n x) : CanS n (cst n S x) := by
  have := hx.1
  have := hx.2
  unfold Go.Proofs.Ythlmkoiilgjflaa.cst
  split
  · exact h.psh (isP_psg (by omega))
  · exact h.tws.psh (isP_pdg (by omega))
theorem CanS.fold {n : Nat} : ∀ {w : List Int} {S : Int × List (List Nat)}, CanS n S → (∀ x ∈ w, LtN n x) → CanS n (w.foldl (Go.Proofs.Ythlmkoiilgjflaa.cst n) S)
  | [], _, h, _ => h
  | x :: w, S, h, hw => CanS.fold (w := w) (S := Go.Proofs.Ythlmkoiilgjflaa.cst n S x) (h.cst (hw x (.head _))) (fun y hy => hw y (.tail _ hy))
/-- Two that may be one are one. -/
theorem psh_psh {n : Nat} (h2 : 2 ≤ n) {S : Int × List (List Nat)} (h : CanS n S) {y z : List Nat} (hy : IsP n y) (hz : IsP n z) (ha : Add n y z) : psh n (psh n S y) z = psh n S (pm n y z) := by
  have h1 := nf_pas (pas_all h.all hy) (pas_set h.all h.set hy) hz
  rw [pas_pas S.2 h.all h.set y z hy hz ha, nf_idl (pid_pdl h2)] at h1
  unfold psh
  rw [h1]
  refine Prod.ext ?_ rfl
  show S.1 + ((nfL n (pas n S.2 y)).1 : Nat) + ((nfL n (pas n (nfL n (pas n S.2 y)).2 z)).1 : Nat) = S.1 + (((nfL n (pas n S.2 y)).1 + (nfL n (pas n (nfL n (pas n S.2 y)).2 z)).1 : Nat) : Int)
  omega
theorem pas_map {n : Nat} : ∀ {F : List (List Nat)} {y : List Nat}, AllP n F → IsP n y → pas n (F.map (pta n)) (pta n y) = (pas n F y).map (pta n)
  | [], _, _, _ => rfl
  | f :: F, y, hF, hy => by
    have hf := hF f (.head _)
    show (settle n (pta n f) (pta n y)).2 :: pas n (F.map (pta n)) (settle n (pta n f) (pta n y)).1 = pta n (settle n f y).2 :: (pas n F (settle n f y).1).map (pta n)
    rw [settle_pta hf hy]
    show _ :: pas n (F.map (pta n)) (pta n (settle n f y).1) = _
    rw [pas_map (fun z hz => hF z (.tail _ hz)) (isP_settle hf hy).1]
theorem nf_map {n : Nat} : ∀ {F : List (List Nat)}, AllP n F → nfL n (F.map (pta n)) = ((nfL n F).1, (nfL n F).2.map (pta n))
  | [], _ => rfl
  | f :: F, hF => by
    have ih := nf_map (fun z hz => hF z (List.Mem.tail f hz))
    have hf := hF f (.head _)
    have e1 : (pta n f = pdl n) ↔ (f = pdl n) := ⟨fun e => pta_inj hf (isP_pdl n) (by rw [e, pta_pdl]), fun e => by rw [e, pta_pdl]⟩
    have e2 : (pta n f = pid n) ↔ (f = pid n) := ⟨fun e => pta_inj hf (isP_pid n) (by rw [e, pta_pid]), fun e => by rw [e, pta_pid]⟩
    rw [List.map_cons]
    unfold nfL
    rw [ih]
    simp only [e1, e2]
    split
    · rfl
    · split
      · rfl
      · rfl
theorem tws_psh {n : Nat} {S : Int × List (List Nat)} (h : CanS n S) {y : List Nat} (hy : IsP n y) : tws n (psh n S y) = psh n (tws n S) (pta n y) := by
  unfold tws psh
  rw [pas_map h.all hy, nf_map (pas_all h.all hy)]
  refine Prod.ext ?_ rfl
  show S.1 + ((nfL n (pas n S.2 y)).1 : Nat) - 1 = S.1 - 1 + ((nfL n (pas n S.2 y)).1 : Nat)
  omega
theorem pas_dl {n : Nat} : ∀ {F : List (List Nat)}, AllP n F → pas n F (pdl n) = F.map (pta n) ++ [pdl n]
  | [], _ => rfl
  | f :: F, hF => by
    show (settle n f (pdl n)).2 :: pas n F (settle n f (pdl n)).1 = _
    rw [settle_pdl (hF f (.head _))]
    show pta n f :: pas n F (pdl n) = _
    rw [pas_dl (fun z hz => hF z (.tail _ hz))]
    rfl
theorem nf_own {n : Nat} : ∀ {F : List (List Nat)}, (∀ x ∈ F, x ≠ pdl n ∧ x ≠ pid n) → nfL n (F ++ [pdl n]) = (1, F)
  | [], _ => by
    show (if pdl n = pdl n then _ else _) = _
    rw [if_pos rfl]; rfl
  | f :: F, h => by
    have h1 := h f (.head _)
    rw [List.cons_append, nf_new h1.1 h1.2, nf_own (fun x hx => h x (.tail _ hx))]
theorem tws_dl {n : Nat} {S : Int × List (List Nat)} (h : CanS n S) : psh n (tws n S) (pdl n) = S := by
  unfold psh
  rw [pas_dl h.tws.all]
  have e : (tws n S).2.map (pta n) = S.2 := by
    show (S.2.map (pta n)).map (pta n) = S.2
    rw [List.map_map]
    conv => rhs; rw [← List.map_id S.2]
    exact List.map_congr_left fun x hx => pta_pta (h.all x hx)
  rw [e, nf_own h.no]
  refine Prod.ext ?_ rfl
  show S.1 - 1 + ((1 : Nat) : Int) = S.1
  omega
theorem add_dl {n : Nat} {x y : List Nat} (h : pm n x y = pdl n) : Add n x y := fun a b hab hb _ => by
  have e1 := congrArg (fun l => pa l a) h
  have e2 := congrArg (fun l => pa l b) h
  simp only [pm_at hb, pm_at (show a < n by omega), pdl_at hb, pdl_at (show a < n by omega)] at e1 e2
  omega
theorem pdg_psg {n i : Nat} (hi : i + 1 < n) : pm n (pdg n i) (psg n i) = pdl n := pa_ext (pk_len _ _) (pk_len _ _) fun j hj => by
  unfold pdg
  have e0 : pa (psg n i) (n - 1 - j) = swp i (n - 1 - j) := psg_at (by omega)
  rw [pm_at hj, pm_at hj, pdl_at hj, e0, psg_at (swp_lt hi (by omega)), swp_swp]
theorem tau_pdg {n i : Nat} (hi : i + 1 < n) : pm n (pta n (psg n i)) (pdg n i) = pdl n := pa_ext (pk_len _ _) (pk_len _ _) fun j hj => by
  have h1 := swp_lt (j := n - 1 - j) hi (by omega)
  unfold pdg
  have e0 : pa (psg n i) (n - 1 - j) = swp i (n - 1 - j) := psg_at (by omega)
  rw [pm_at hj, pta_at hj, e0, pm_at (by omega), pdl_at (by omega), show n - 1 - (n - 1 - swp i (n - 1 - j)) = swp i (n - 1 - j) by omega, psg_at h1, swp_swp, pdl_at hj]
/-- A letter and its reciprocal. -/
theorem cst_neg {n : Nat} (h2 : 2 ≤ n) {S : Int × List (List Nat)} (h : CanS n S) {x : Int} (hx : LtN n x) : cst n (cst n S x) (-x) = S := by
  have h1 := hx.1
  have h3 := hx.2
  have hi : x.natAbs - 1 + 1 < n := by omega
  unfold cst
  rw [Int.natAbs_neg]
  by_cases hp : 0 < x
  · rw [if_pos hp, if_neg (by omega), tws_psh h (isP_psg hi), psh_psh h2 h.tws (isP_pta (isP_psg hi)) (isP_pdg hi) (add_dl (tau_pdg hi)), tau_pdg hi, tws_dl h]
  · rw [if_neg hp, if_pos (by omega), psh_psh h2 h.tws (isP_pdg hi) (isP_psg hi) (add_dl (pdg_psg hi)), pdg_psg hi, tws_dl h]
theorem add_gg {n a b : Nat} (ha : a + 1 < n) (hab : a ≠ b) : Add n (psg n a) (psg n b) := by
  intro c d hcd hd hlt
  rw [psg_at hd, psg_at (show c < n by omega)] at hlt
  rw [psg_at hd, psg_at (show c < n by omega), psg_at (swp_lt ha hd), psg_at (swp_lt ha (show c < n by omega))]
  by_cases e : c = a ∧ d = a + 1
  · rw [e.1, e.2, swp_fst, swp_snd]
    exact swp_mono (by omega) (fun q => hab q.1)
  · have := swp_mono hcd e
    omega
theorem far_gg {n a b : Nat} (ha : a + 1 < n) (hb : b + 1 < n) (hab : a + 1 < b ∨ b + 1 < a) : pm n (psg n a) (psg n b) = pm n (psg n b) (psg n a) := pa_ext (pk_len _ _) (pk_len _ _) fun j hj => by
  rw [pm_at hj, pm_at hj, psg_at hj, psg_at hj, psg_at (swp_lt ha hj), psg_at (swp_lt hb hj)]
  unfold swp
  (repeat' split) <;> omega
theorem add_ggg {n a b : Nat} (ha : a + 1 < n) (hb : b + 1 < n) (hab : a + 1 = b ∨ b + 1 = a) : Add n (pm n (psg n a) (psg n b)) (psg n a) := by
  intro c d hcd hd hlt
  have hc : c < n := by omega
  have l1 := swp_lt hb (swp_lt ha hd)
  have l2 := swp_lt hb (swp_lt ha hc)
  rw [pm_at hd, pm_at hc, psg_at hd, psg_at hc, psg_at (swp_lt ha hd), psg_at (swp_lt ha hc)] at hlt ⊢
  rw [psg_at l1, psg_at l2]
  refine swp_mono hlt fun ⟨e1, e2⟩ => ?_
  have f1 := congrArg (fun k => swp a (swp b k)) e1
  have f2 := congrArg (fun k => swp a (swp b k)) e2
  simp only [swp_swp] at f1 f2
  have : swp a (swp b a) < swp a (swp b (a + 1)) := by
    rcases hab with e | e
    · subst e
      rw [swp_fst, show swp (a + 1) a = a by unfold swp; rw [if_neg (by omega), if_neg (by omega)], swp_fst, show swp a (a + 1 + 1) = a + 1 + 1 by unfold swp; rw [if_neg (by omega), if_neg (by omega)]]
      omega
    · subst e
      rw [swp_snd, show swp b (b + 1 + 1) = b + 1 + 1 by unfold swp; rw [if_neg (by omega), if_neg (by omega)], swp_snd, show swp (b + 1) b = b by unfold swp; rw [if_neg (by omega), if_neg (by omega)]]
      omega
  omega
theorem near_gg {n a b : Nat} (ha : a + 1 < n) (hb : b + 1 < n) (hab : a + 1 = b ∨ b + 1 = a) : pm n (pm n (psg n a) (psg n b)) (psg n a) = pm n (pm n (psg n b) (psg n a)) (psg n b) := pa_ext (pk_len _ _) (pk_len _ _) fun j hj => by
  rw [pm_at hj, pm_at hj, pm_at hj, pm_at hj, psg_at hj, psg_at hj, psg_at (swp_lt ha hj), psg_at (swp_lt hb hj), psg_at (swp_lt hb (swp_lt ha hj)), psg_at (swp_lt ha (swp_lt hb hj))]
  have key : ∀ a j, swp a (swp (a + 1) (swp a j)) = swp (a + 1) (swp a (swp (a + 1) j)) := by
    intro a j
    have o : ∀ i k, k ≠ i → k ≠ i + 1 → swp i k = k := fun i k h1 h2 => by unfold swp; rw [if_neg h1, if_neg h2]
    by_cases e1 : j = a
    · subst e1
      rw [swp_fst, swp_fst, o j (j + 1 + 1) (by omega) (by omega), o (j + 1) j (by omega) (by omega), swp_fst, swp_fst]
    · by_cases e2 : j = a + 1
      · subst e2
        rw [swp_snd, o (a + 1) a (by omega) (by omega), swp_fst, swp_fst, o a (a + 1 + 1) (by omega) (by omega), swp_snd]
      · by_cases e3 : j = a + 1 + 1
        · subst e3
          rw [o a (a + 1 + 1) (by omega) (by omega), swp_snd, swp_snd, o (a + 1) a (by omega) (by omega)]
        · rw [o a j e1 e2, o (a + 1) j e2 e3, o a j e1 e2, o (a + 1) j e2 e3]
  rcases hab with e | e
  · subst e; exact key a j
  · subst e; exact (key b j).symm
/-- Letters that are far change places. -/
theorem cst_far {n : Nat} (h2 : 2 ≤ n) {S : Int × List (List Nat)} (h : CanS n S) {a b : Nat} (ha : a + 1 < n) (hb : b + 1 < n) (hab : a + 1 < b ∨ b + 1 < a) : cst n (cst n S (a + 1 : Nat)) (b + 1 : Nat) = cst n (cst n S (b + 1 : Nat)) (a + 1 : Nat) := by
  unfold cst
  rw [if_pos (by omega), if_pos (by omega), if_pos (by omega), if_pos (by omega)]
  simp only [Int.natAbs_natCast, Nat.add_sub_cancel]
  rw [psh_psh h2 h (isP_psg ha) (isP_psg hb) (add_gg ha (by omega)), psh_psh h2 h (isP_psg hb) (isP_psg ha) (add_gg hb (by omega)), far_gg ha hb hab]
/-- Three letters of neighbours. -/
theorem cst_near {n : Nat} (h2 : 2 ≤ n) {S : Int × List (List Nat)} (h : CanS n S) {a b : Nat} (ha : a + 1 < n) (hb : b + 1 < n) (hab : a + 1 = b ∨ b + 1 = a) : cst n (cst n (cst n S (a + 1 : Nat)) (b + 1 : Nat)) (a + 1 : Nat) = cst n (cst n (cst n S (b + 1 : Nat)) (a + 1 : Nat)) (b + 1 : Nat) := by
  have sa := isP_psg (n := n) ha
  have sb := isP_psg (n := n) hb
  unfold cst
  rw [if_pos (by omega), if_pos (by omega), if_pos (by omega), if_pos (by omega), if_pos (by omega), if_pos (by omega)]
  simp only [Int.natAbs_natCast, Nat.add_sub_cancel]
  rw [psh_psh h2 h sa sb (add_gg ha (by omega)), psh_psh h2 h sb sa (add_gg hb (by omega)), psh_psh h2 h (sa.pm sb) sa (add_ggg ha hb hab), psh_psh h2 h (sb.pm sa) sb (add_ggg hb ha hab.symm), near_gg ha hb hab]
end Go.Proofs.Ythlmkoiilgjflaa
