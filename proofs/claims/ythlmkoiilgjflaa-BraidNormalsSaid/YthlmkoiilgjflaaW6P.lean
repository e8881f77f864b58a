/- Several texts of the proof, one behind the other. -/
import Derived.Test.YthlmkoiilgjflaaW3P
import Derived.Test.YthlmkoiilgjflaaH5P
/- Visits: lists of them that a call owns; the walks of gauss.visits and gauss.signs. -/
namespace Go.Proofs.Ythlmkoiilgjflaa
open Go.RowKit

/-- The visit to which arc a leads. -/
def vis (C : List Cr) (a : Nat) : Nat × Bool := (toC C a, !decide (toS C a = 0))
def visL (C : List Cr) (l : List Nat) : List (Nat × Bool) := l.map (vis C)
def visM (C : List Cr) : List (List (Nat × Bool)) := (walksM C).map (visL C)
/-- Visits as cells. -/
def vflat (V : List (Nat × Bool)) : List Value := V.flatMap fun t => [.int .i64 (t.1 : Nat), .bool t.2]
theorem vflat_length (l : List (Nat × Bool)) : (vflat l).length = l.length * 2 := by
  induction l with
  | nil => rfl
  | cons t l ih => simp [vflat] at *; omega
theorem vflat_append (l m : List (Nat × Bool)) : vflat (l ++ m) = vflat l ++ vflat m := by simp [vflat]
theorem vflat_get (l : List (Nat × Bool)) (i : Nat) (hi : i < l.length) : (vflat l)[i * 2]? = some (.int .i64 ((l.getD i (0, false)).1 : Nat)) ∧ (vflat l)[i * 2 + 1]? = some (.bool (l.getD i (0, false)).2) := by
  induction l generalizing i with
  | nil => simp at hi
  | cons t l ih =>
    have e : vflat (t :: l) = .int .i64 (t.1 : Nat) :: .bool t.2 :: vflat l := rfl
    cases i with
    | zero => rw [e]; exact ⟨rfl, rfl⟩
    | succ i =>
      have := ih i (by simpa using hi)
      rw [e, show (i + 1) * 2 = i * 2 + 1 + 1 by omega]
      exact this
theorem vflat_set (l : List (Nat × Bool)) (i : Nat) (hi : i < l.length) (t : Nat × Bool) : ((vflat l).set (i * 2) (.int .i64 (t.1 : Nat))).set (i * 2 + 1) (.bool t.2) = vflat (l.set i t) := by
  induction l generalizing i with
  | nil => simp at hi
  | cons s l ih =>
    have e : vflat (s :: l) = .int .i64 (s.1 : Nat) :: .bool s.2 :: vflat l := rfl
    cases i with
    | zero => rw [e]; rfl
    | succ i =>
      have := ih i (by simpa using hi)
      have e2 : vflat ((s :: l).set (i + 1) t) = .int .i64 (s.1 : Nat) :: .bool s.2 :: vflat (l.set i t) := rfl
      rw [e, e2, show (i + 1) * 2 = i * 2 + 1 + 1 by omega, List.set_cons_succ, List.set_cons_succ, List.set_cons_succ, List.set_cons_succ, this]
theorem vflat_one (l : List (Nat × Bool)) : ∀ u ∈ vflat l, u.oneCell' = true := by
  intro u hu
  simp only [vflat, List.mem_flatMap] at hu
  obtain ⟨t, _, ht⟩ := hu
  simp at ht
  rcases ht with rfl | rfl <;> rfl
theorem vflat_zeros (n : Nat) : (madeCells #[Value.int .i64 0, .bool false] (n * 2)).toList = vflat (List.replicate n (0, false)) := by
  apply List.ext_getElem?
  intro j
  by_cases hj : j < n * 2
  · have g := vflat_get (List.replicate n (0, false)) (j / 2) (by simp; omega)
    have e : (List.replicate n ((0 : Nat), false)).getD (j / 2) (0, false) = (0, false) := by
      rw [List.getD_eq_getElem?_getD, List.getElem?_replicate]
      split <;> rfl
    rw [e] at g
    simp only [madeCells]
    rcases Nat.mod_two_eq_zero_or_one j with h | h
    · rw [show j / 2 * 2 = j by omega] at g
      rw [g.1]
      simp [hj, h]
    · rw [show j / 2 * 2 + 1 = j by omega] at g
      rw [g.2]
      simp [hj, h]
  · rw [List.getElem?_eq_none (by simp [madeCells]; omega), List.getElem?_eq_none (by rw [vflat_length]; simp; omega)]
/-- What the loop has done behind i visits. -/
def partTo (C : List Cr) (l : List Nat) (i : Nat) : List (Nat × Bool) := visL C (l.take i) ++ List.replicate (l.length - i) (0, false)
theorem part_len (C : List Cr) (l : List Nat) (i : Nat) (h : i ≤ l.length) : (partTo C l i).length = l.length := by simp [partTo, visL]; omega
theorem part_next (C : List Cr) (l : List Nat) (i : Nat) (h : i < l.length) : (partTo C l i).set i (vis C (l.getD i 0)) = partTo C l (i + 1) := by
  unfold partTo visL
  rw [List.set_append_right _ _ (by simp; omega)]
  have e : l.length - i = (l.length - (i + 1)) + 1 := by omega
  have e2 : l.take (i + 1) = l.take i ++ [l.getD i 0] := by
    rw [List.take_add_one, List.getD_eq_getElem?_getD, List.getElem?_eq_getElem h]
    rfl
  rw [e2, List.map_append, e, List.replicate_succ]
  simp [Nat.min_eq_left (Nat.le_of_lt h)]
theorem part_all (C : List Cr) (l : List Nat) : partTo C l l.length = visL C l := by simp [partTo]
theorem own_stv {w : World} {B e n g cap i : Nat} {l : List (Nat × Bool)} {t : Nat × Bool} (h : w.ownsRow B e 2 (.slice (some ⟨g, 0, none⟩) n cap) n (vflat l)) (hi : i < l.length) : (st2 w g (i * 2) (.int .i64 (t.1 : Nat)) (.bool t.2)).ownsRow B e 2 (.slice (some ⟨g, 0, none⟩) n cap) n (vflat (l.set i t)) := by
  have h1 := (h.stored (i * 2) (.int .i64 (t.1 : Nat))).1
  have h2 := (h1.stored (i * 2 + 1) (.bool t.2)).1
  rw [vflat_set l i hi t] at h2
  exact h2
/-- The walks as one looks at them. -/
def WksAt (w : World) (v : Value) (L : List (List Nat)) : Prop := ∃ ys : List Value, ys.length = L.length ∧ Slots w w.heap.size v ys ∧ ∀ j, j < L.length → Slots w w.heap.size (ys.getD j (.bool false)) (nats (L.getD j []))
theorem NatsOwn.wks {w : World} {B : Nat} {v : Value} {L : List (List Nat)} (h : NatsOwn w B v L) : WksAt w v L := by
  obtain ⟨ys, h1, h2, h3⟩ := h
  exact ⟨ys, h1, slots_of_own h2, fun j hj => slots_of_own (h3 j hj)⟩
theorem WksAt.on {w w' : World} {v : Value} {L : List (List Nat)} (h : WksAt w v L) (hb : Below w.heap.size w w') : WksAt w' v L := by
  obtain ⟨ys, h1, h2, h3⟩ := h
  exact ⟨ys, h1, (h2.on hb).mono hb.size, fun j hj => ((h3 j hj).on hb).mono hb.size⟩
theorem walksM_facts {C : List Cr} {loops : Int} (hm : mayD C loops = true) : (walksM C).length ≤ 2 * C.length ∧ ∀ j, j < (walksM C).length → 0 < ((walksM C).getD j []).length ∧ ((walksM C).getD j []).length ≤ 2 * C.length + 1 ∧ ∀ i, i < ((walksM C).getD j []).length → 1 ≤ ((walksM C).getD j []).getD i 0 ∧ ((walksM C).getD j []).getD i 0 ≤ 2 * C.length := by
  refine ⟨walksTo_count _ _ _, fun j hj => ?_⟩
  have hmem : (walksM C).getD j [] ∈ walksM C := by
    rw [List.getD_eq_getElem?_getD, List.getElem?_eq_getElem hj]
    exact List.getElem_mem hj
  have h := walksTo_mem (nx_closed hm) (2 * C.length) (Nat.le_refl _) _ hmem
  clear hmem
  generalize (walksM C).getD j [] = l at h
  refine ⟨List.length_pos_iff.2 h.1, h.2.1, fun i hi => h.2.2 _ ?_⟩
  rw [List.getD_eq_getElem?_getD, List.getElem?_eq_getElem hi]
  exact List.getElem_mem hi

end Go.Proofs.Ythlmkoiilgjflaa
/- Normal forms, and what a letter makes of them; relations: plain mathematics. -/
namespace Go.Proofs.Ythlmkoiilgjflaa

/-- How many are Delta, and those that are neither Delta nor nothing. -/
def nfL (n : Nat) : List (List Nat) → Nat × List (List Nat)
  | [] => (0, [])
  | f :: F => if f = pdl n then ((nfL n F).1 + 1, (nfL n F).2) else if f = pid n then nfL n F else ((nfL n F).1, f :: (nfL n F).2)
theorem nf_idl {n : Nat} {F : List (List Nat)} (h : ¬ pid n = pdl n) : nfL n (pid n :: F) = nfL n F := by
  conv => lhs; unfold nfL
  rw [if_neg h, if_pos rfl]
theorem nf_new {n : Nat} {f : List Nat} {F : List (List Nat)} (h1 : ¬ f = pdl n) (h2 : ¬ f = pid n) : nfL n (f :: F) = ((nfL n F).1, f :: (nfL n F).2) := by
  conv => lhs; unfold nfL
  rw [if_neg h1, if_neg h2]
theorem pid_pdl {n : Nat} (h : 2 ≤ n) : pid n ≠ pdl n := fun e => by
  have := congrArg (fun l => pa l 0) e
  simp only [pid_at (show 0 < n by omega), pdl_at (show 0 < n by omega)] at this
  omega
theorem sd_id {n : Nat} {f : List Nat} (hf : IsP n f) (h : Sd n (pid n) f) : f = pid n := by
  refine inv_eq hf (isP_pid n) (fun a b hab hb hlt => ?_) (fun a b hab hb hlt => ?_)
  · exfalso
    have mono : ∀ j, a + j ≤ b → pa f a ≤ pa f (a + j) := by
      intro j
      induction j with
      | zero => intro _; exact Nat.le_refl _
      | succ j ih =>
        intro hj
        have h1 := ih (by omega)
        refine Nat.le_of_not_lt fun hl => ?_
        have := h (a + j) (by omega) (by rw [Nat.add_assoc]; omega)
        rw [pv_pid (by omega), pv_pid (by omega)] at this
        omega
    have := mono (b - a) (by omega)
    rw [show a + (b - a) = b by omega] at this
    omega
  · rw [pid_at hb, pid_at (by omega)] at hlt
    omega
theorem sd_dl {n : Nat} {e : List Nat} (he : IsP n e) (h : Sd n e (pdl n)) : e = pdl n := by
  have mono : ∀ j a, a + j < n → 0 < j → pa (pv n e) (a + j) < pa (pv n e) a := by
    intro j
    induction j with
    | zero => intro a _ h0; omega
    | succ j ih =>
      intro a ha _
      have h1 := h (a + j) (by omega) (by rw [pdl_at (by omega), pdl_at (by omega)]; omega)
      rw [Nat.add_assoc] at h1
      by_cases hj : j = 0
      · subst hj; exact h1
      · have := ih a (by omega) (by omega)
        omega
  have : pv n e = pdl n := inv_eq he.pv (isP_pdl n) (fun a b hab hb _ => by rw [pdl_at hb, pdl_at (by omega)]; omega) (fun a b hab hb _ => by
    have := mono (b - a) a (by omega) (by omega)
    rwa [show a + (b - a) = b by omega] at this)
  rw [← pv_pv he, this, pv_pdl]
theorem nf_dl {n : Nat} : ∀ {F : List (List Nat)}, AllP n F → SetL n (pdl n :: F) → nfL n F = (F.length, []) ∧ pas n F (pdl n) = F ++ [pdl n]
  | [], _, _ => ⟨rfl, rfl⟩
  | e :: F, hF, hs => by
    have he : e = pdl n := sd_dl (hF e (.head _)) (hs.1 e rfl)
    subst he
    obtain ⟨h1, h2⟩ := nf_dl (fun z hz => hF z (.tail _ hz)) hs.2
    refine ⟨?_, ?_⟩
    · show (if pdl n = pdl n then ((nfL n F).1 + 1, (nfL n F).2) else _) = _
      rw [if_pos rfl, h1]
      rfl
    · show (settle n (pdl n) (pdl n)).2 :: pas n F (settle n (pdl n) (pdl n)).1 = _
      rw [pdl_settle (isP_pdl n)]
      show pdl n :: pas n F (pdl n) = _
      rw [h2]
      rfl
theorem nf_rep {n : Nat} (k : Nat) : nfL n (List.replicate k (pdl n)) = (k, []) := by
  induction k with
  | zero => rfl
  | succ k ih =>
    rw [List.replicate_succ]
    show (if pdl n = pdl n then ((nfL n _).1 + 1, (nfL n _).2) else _) = _
    rw [if_pos rfl, ih]
theorem nf_mem {n : Nat} : ∀ {F : List (List Nat)} {x : List Nat}, x ∈ (nfL n F).2 → x ∈ F ∧ x ≠ pdl n ∧ x ≠ pid n
  | [], _, h => nomatch h
  | f :: F, x, h => by
    unfold nfL at h
    split at h
    · have := nf_mem h; exact ⟨.tail _ this.1, this.2⟩
    · split at h
      · have := nf_mem h; exact ⟨.tail _ this.1, this.2⟩
      · rcases List.mem_cons.1 h with e | e
        · subst e; exact ⟨.head _, by assumption, by assumption⟩
        · have := nf_mem e; exact ⟨.tail _ this.1, this.2⟩
theorem nf_set {n : Nat} : ∀ {F : List (List Nat)}, AllP n F → SetL n F → SetL n (nfL n F).2
  | [], _, _ => trivial
  | f :: F, hF, hs => by
    have hF' : AllP n F := fun z hz => hF z (.tail _ hz)
    have ih := nf_set hF' hs.2
    unfold nfL
    split
    · exact ih
    · split
      · exact ih
      · rename_i h1 h2
        refine ⟨fun e he => ?_, ih⟩
        cases F with
        | nil => cases he
        | cons g F =>
          have hg := hs.1 g rfl
          by_cases g1 : g = pdl n
          · subst g1
            have h3 := (nf_dl (fun z hz => hF' z (.tail _ hz)) hs.2).1
            have h4 : (nfL n (pdl n :: F)).2 = [] := by
              show (if pdl n = pdl n then ((nfL n F).1 + 1, (nfL n F).2) else _).2 = _
              rw [if_pos rfl, h3]
            rw [h4] at he
            cases he
          · by_cases g2 : g = pid n
            · subst g2
              exact (h2 (sd_id (hF f (.head _)) hg)).elim
            · have h4 : (nfL n (g :: F)).2 = g :: (nfL n F).2 := by
                conv => lhs; unfold nfL
                rw [if_neg g1, if_neg g2]
              rw [h4] at he
              obtain rfl : g = e := Option.some.inj he
              exact hg
/-- What is Delta or nothing may be left out ahead of more letters. -/
theorem nf_pas {n : Nat} : ∀ {F : List (List Nat)} {y : List Nat}, AllP n F → SetL n F → IsP n y → nfL n (pas n F y) = ((nfL n F).1 + (nfL n (pas n (nfL n F).2 y)).1, (nfL n (pas n (nfL n F).2 y)).2)
  | [], y, _, _, _ => by
    show nfL n (pas n [] y) = (0 + (nfL n (pas n [] y)).1, (nfL n (pas n [] y)).2)
    rw [Nat.zero_add]
  | f :: F, y, hF, hs, hy => by
    have hf := hF f (.head _)
    have hF' : AllP n F := fun z hz => hF z (.tail _ hz)
    have cons : ∀ (g : List Nat) (X Y : List (List Nat)) (k : Nat), nfL n X = (k + (nfL n Y).1, (nfL n Y).2) → nfL n (g :: X) = (k + (nfL n (g :: Y)).1, (nfL n (g :: Y)).2) := by
      intro g X Y k h
      unfold nfL
      split
      · rw [h]; simp only [Nat.add_assoc]
      · split
        · exact h
        · rw [h]
    by_cases g1 : f = pdl n
    · subst g1
      obtain ⟨h1, h2⟩ := nf_dl hF' hs
      have e1 : nfL n (pdl n :: F) = (F.length + 1, []) := by
        show (if pdl n = pdl n then ((nfL n F).1 + 1, (nfL n F).2) else _) = _
        rw [if_pos rfl, h1]
      rw [e1]
      show nfL n ((settle n (pdl n) y).2 :: pas n F (settle n (pdl n) y).1) = (F.length + 1 + (nfL n [y]).1, (nfL n [y]).2)
      rw [pdl_settle hy]
      refine cons y _ [] _ ?_
      rw [h2]
      have h3 : ∀ X : List (List Nat), nfL n X = (X.length, []) → nfL n (X ++ [pdl n]) = (X.length + 1, []) := by
        intro X
        induction X with
        | nil => intro _; show (if pdl n = pdl n then _ else _) = _; rw [if_pos rfl]; rfl
        | cons g X ih =>
          intro h
          have le : ∀ X : List (List Nat), (nfL n X).1 + (nfL n X).2.length ≤ X.length := by
            intro X
            induction X with
            | nil => exact Nat.le_refl _
            | cons a X ihx => unfold nfL; split <;> (try split) <;> simp only [List.length_cons] <;> omega
          rw [List.cons_append]
          have l1 := le X
          unfold nfL at h ⊢
          by_cases c1 : g = pdl n
          · rw [if_pos c1] at h ⊢
            have a1 := congrArg Prod.fst h
            have a2 := congrArg Prod.snd h
            simp only [List.length_cons] at a1 a2
            rw [ih (Prod.ext (by show (nfL n X).1 = X.length; omega) a2)]
            simp
          · rw [if_neg c1] at h ⊢
            by_cases c2 : g = pid n
            · rw [if_pos c2] at h
              have a1 := congrArg Prod.fst h
              simp only [List.length_cons] at a1
              omega
            · rw [if_neg c2] at h
              have a2 := congrArg Prod.snd h
              simp at a2
      rw [h3 F h1]
      rfl
    · by_cases g2 : f = pid n
      · subst g2
        rw [nf_idl g1]
        show nfL n ((settle n (pid n) y).2 :: pas n F (settle n (pid n) y).1) = _
        rw [pid_settle hy]
        show nfL n (pid n :: pas n F y) = _
        rw [nf_idl g1]
        exact nf_pas hF' hs.2 hy
      · rw [nf_new g1 g2]
        exact cons _ _ _ _ (nf_pas hF' hs.2 (isP_settle hf hy).1)
end Go.Proofs.Ythlmkoiilgjflaa
