/- Several texts of the proof, one behind the other. -/
import Derived.Test.YtlimfajjmhfnaaaGreatDoorC11P
import Derived.Test.YtlimfajjmhfnaaaGreatDoorF3P
/- What ref.CanonForm reckons: least tellings of pieces by their codes. -/
namespace Go.Proofs.YtlimfajjmhfnaaaGreatDoor
open Go.RowKit

theorem teI_len9 {C : List Cr} (f i : Nat) : (i ≤ (teI C f i).1.length ∧ (teI C f i).2.length = 9 * i) ∨ ((teI C f i).1.length ≤ i ∧ (teI C f i).2.length = 9 * (teI C f i).1.length) := by
  induction i with
  | zero => exact Or.inl ⟨Nat.zero_le _, rfl⟩
  | succ i ih =>
    rw [teI]
    by_cases h : i < (teI C f i).1.length
    · rw [if_pos h]
      have hp := (teK_pre C i (teI C f i) 4).length_le
      have hl := teK_len C i (teI C f i) 4
      rcases ih with ⟨a, b⟩ | ⟨a, b⟩
      · exact Or.inl ⟨by omega, by omega⟩
      · omega
    · rw [if_neg h]
      rcases ih with ⟨a, b⟩ | ⟨a, b⟩
      · exact Or.inr ⟨by omega, by omega⟩
      · exact Or.inr ⟨by omega, b⟩
theorem te_len9 {C : List Cr} {loops : Int} (hm : mayD C loops = true) {f : Nat} (hf : f < C.length) : (te C f).2.length = 9 * (te C f).1.length := by
  have h1 := (teI_ok hm hf C.length).few
  unfold te
  rcases teI_len9 (C := C) f C.length with ⟨a, b⟩ | ⟨a, b⟩ <;> omega
theorem teI_pre (C : List Cr) (f i : Nat) : [f] <+: (teI C f i).1 := by
  induction i with
  | zero => exact List.prefix_rfl
  | succ i ih =>
    rw [teI]
    split
    · exact ih.trans (teK_pre C i _ 4)
    · exact ih
theorem te_ne (C : List Cr) (f : Nat) : 0 < (te C f).1.length := by
  have := (teI_pre C f C.length).length_le
  unfold te
  simp only [List.length_cons, List.length_nil] at this
  omega
theorem leT_len9 {C : List Cr} {loops : Int} (hm : mayD C loops = true) (P : List Int) (p k : Nat) (hk : k ≤ C.length) : (leT C P p k).2.length = 9 * (leT C P p k).1.length := by
  induction k with
  | zero => simp [leT]
  | succ k ih =>
    rw [leT]
    split
    · exact te_len9 hm (by omega)
    · exact ih (by omega)
theorem lexL_cmp : ∀ (a b : List Int), a.length = b.length → lexL a b = decide (lexC a b < 0)
  | [], [], _ => rfl
  | [], _ :: _, h => by simp at h
  | _ :: _, [], h => by simp at h
  | x :: s, y :: t, h => by
    rw [lexL, lexC]
    by_cases e : x = y
    · rw [if_pos e, if_pos e]
      exact lexL_cmp s t (by simpa using h)
    · rw [if_neg e, if_neg e]
      exact decide_eq_decide.2 cmpI_lt.symm
theorem less_cmp {p q : List Nat × List Int} (hp : p.2.length = 9 * p.1.length) (hq : q.2.length = 9 * q.1.length) : lessC p.2 q.2 = decide (cmpT p q < 0) := by
  unfold lessC cmpT
  by_cases e : p.1.length = q.1.length
  · rw [if_pos e, if_pos (by omega)]
    exact lexL_cmp _ _ (by omega)
  · rw [if_neg e, if_neg (by omega)]
    refine decide_eq_decide.2 ?_
    rw [cmpI_lt]
    omega
/-- The crossings below p that are the least of their pieces. -/
def hdTo (V : List Nat) : Nat → List Nat
  | 0 => []
  | p + 1 => if V.getD p 0 = p then hdTo V p ++ [p] else hdTo V p
theorem hdTo_len (V : List Nat) (p : Nat) : (hdTo V p).length ≤ p := by
  induction p with
  | zero => exact Nat.le_refl _
  | succ p ih =>
    rw [hdTo]
    split
    · simp only [List.length_append, List.length_cons, List.length_nil]; omega
    · omega
def wI (V : List Nat) : List Int := V.map fun x : Nat => (x : Int)
theorem wI_at (V : List Nat) (k : Nat) (hk : k < V.length) : (wI V).getD k 0 = (V.getD k 0 : Int) := by
  simp [wI, List.getD, hk]
/-- The codes and orders of the pieces so far. -/
structure RfAt (B : Nat) (Hc Ho : List Nat) (T : Nat → List Nat × List Int) (v4 v5 : Value) (cs os : List Value) (W : World) : Prop where
  cl : cs.length = Hc.length
  ol : os.length = Ho.length
  cr : W.ownsRow B 44 1 v4 Hc.length cs
  orr : W.ownsRow B 44 1 v5 Ho.length os
  c : ∀ i, i < Hc.length → W.ownsRow B 3 1 (cs.getD i (.bool false)) (T (Hc.getD i 0)).2.length (intsV (T (Hc.getD i 0)).2)
  o : ∀ i, i < Ho.length → W.ownsRow B 3 1 (os.getD i (.bool false)) (T (Ho.getD i 0)).1.length (nats (T (Ho.getD i 0)).1)
  ne : v4.ownBlock = none ∨ v4.ownBlock ≠ v5.ownBlock
section
variable {B : Nat} {Hc Ho : List Nat} {T : Nat → List Nat × List Int} {v4 v5 : Value} {cs os : List Value} {W : World}
theorem RfAt.any {W' : World} (h : RfAt B Hc Ho T v4 v5 cs os W) (hg : W.grownBy W' none) : RfAt B Hc Ho T v4 v5 cs os W' :=
  ⟨h.cl, h.ol, own_any h.cr hg, own_any h.orr hg, fun i hi => own_any (h.c i hi) hg, fun i hi => own_any (h.o i hi) hg, h.ne⟩
/-- What changes a row of another kind alone leaves all. -/
theorem RfAt.kept {W' : World} {B' e n s : Nat} {u : Value} {xs : List Value} (h : RfAt B Hc Ho T v4 v5 cs os W) (ho : W.ownsRow B' e s u n xs) (he1 : e ≠ 3) (he2 : e ≠ 44) (hg : W.grownBy W' u.ownBlock) : RfAt B Hc Ho T v4 v5 cs os W' :=
  ⟨h.cl, h.ol, h.cr.kept hg (own_ne h.cr ho (fun e => he2 e.symm)), h.orr.kept hg (own_ne h.orr ho (fun e => he2 e.symm)), fun i hi => (h.c i hi).kept hg (own_ne (h.c i hi) ho (fun e => he1 e.symm)), fun i hi => (h.o i hi).kept hg (own_ne (h.o i hi) ho (fun e => he1 e.symm)), h.ne⟩
/-- What changes a block that none of the rows is leaves all. -/
theorem RfAt.low {W' : World} {q : Nat} (h : RfAt B Hc Ho T v4 v5 cs os W) (hq : q < B) (hg : W.grownBy W' (some q)) : RfAt B Hc Ho T v4 v5 cs os W' := by
  have hl : ∀ {e s k : Nat} {u : Value} {xs : List Value}, W.ownsRow B e s u k xs → u.ownBlock = none ∨ u.ownBlock ≠ some q := fun ho => Or.inr (fun e => by have := (ho.lt _ e).1; omega)
  exact ⟨h.cl, h.ol, h.cr.kept hg (hl h.cr), h.orr.kept hg (hl h.orr), fun i hi => (h.c i hi).kept hg (hl (h.c i hi)), fun i hi => (h.o i hi).kept hg (hl (h.o i hi)), h.ne⟩
theorem getD_snoc_lt {α : Type} (l : List α) (x d : α) (i : Nat) (h : i < l.length) : (l ++ [x]).getD i d = l.getD i d := by simp [List.getD, List.getElem?_append_left h]
theorem getD_snoc_eq {α : Type} (l : List α) (x d : α) : (l ++ [x]).getD l.length d = x := by simp [List.getD]
theorem RfAt.code {p g k cap H : Nat} {u : Value} {W8 : World} (h : RfAt B Hc Ho T v4 v5 cs os W) (hk : k = Hc.length + 1) (hu : W.ownsRow B 3 1 u (T p).2.length (intsV (T p).2)) (hown : W8.ownsRow B 44 1 (.slice (some ⟨g, 0, none⟩) k cap) k (cs ++ [u])) (hg : W.grownBy W8 v4.ownBlock) (hl : v4.ownBlock = some g ∨ g = H) (hH : W.heap.size = H) :
    RfAt B (Hc ++ [p]) Ho T (.slice (some ⟨g, 0, none⟩) k cap) v5 (cs ++ [u]) os W8 := by
  subst hk
  have hv : v5.ownBlock = none ∨ v5.ownBlock ≠ v4.ownBlock := by
    cases hv : v5.ownBlock with
    | none => exact Or.inl rfl
    | some q =>
      refine Or.inr (fun e => ?_)
      have := h.ne
      rw [hv, ← e] at this
      rcases this with h1 | h1
      · cases h1
      · exact h1 rfl
  have hI : ∀ {n : Nat} {v : Value} {xs : List Value}, W.ownsRow B 3 1 v n xs → W8.ownsRow B 3 1 v n xs := fun ho => ho.kept hg (own_ne ho h.cr (by decide))
  refine ⟨by simp [h.cl], h.ol, by simpa using hown, h.orr.kept hg hv, fun i hi => ?_, fun i hi => hI (h.o i hi), ?_⟩
  · by_cases e : i < Hc.length
    · rw [getD_snoc_lt _ _ _ _ e, getD_snoc_lt _ _ _ _ (by rw [h.cl]; exact e)]
      exact hI (h.c i e)
    · have e2 : i = Hc.length := by simp at hi; omega
      subst e2
      rw [getD_snoc_eq, ← h.cl, getD_snoc_eq]
      exact hI hu
  · refine Or.inr (fun e => ?_)
    have e' : some g = v5.ownBlock := e
    rcases hl with hl | hl
    · rcases hv with h1 | h1
      · rw [h1] at e'; cases e'
      · exact h1 (by rw [hl, ← e'])
    · have h1 := (h.orr.lt g e'.symm).2
      omega
theorem RfAt.order {p g k cap H : Nat} {u : Value} {W8 : World} (h : RfAt B Hc Ho T v4 v5 cs os W) (hk : k = Ho.length + 1) (hu : W.ownsRow B 3 1 u (T p).1.length (nats (T p).1)) (hown : W8.ownsRow B 44 1 (.slice (some ⟨g, 0, none⟩) k cap) k (os ++ [u])) (hg : W.grownBy W8 v5.ownBlock) (hl : v5.ownBlock = some g ∨ g = H) (hH : W.heap.size = H) :
    RfAt B Hc (Ho ++ [p]) T v4 (.slice (some ⟨g, 0, none⟩) k cap) cs (os ++ [u]) W8 := by
  subst hk
  have hI : ∀ {n : Nat} {v : Value} {xs : List Value}, W.ownsRow B 3 1 v n xs → W8.ownsRow B 3 1 v n xs := fun ho => ho.kept hg (own_ne ho h.orr (by decide))
  refine ⟨h.cl, by simp [h.ol], h.cr.kept hg h.ne, by simpa using hown, fun i hi => hI (h.c i hi), fun i hi => ?_, ?_⟩
  · by_cases e : i < Ho.length
    · rw [getD_snoc_lt _ _ _ _ e, getD_snoc_lt _ _ _ _ (by rw [h.ol]; exact e)]
      exact hI (h.o i e)
    · have e2 : i = Ho.length := by simp at hi; omega
      subst e2
      rw [getD_snoc_eq, ← h.ol, getD_snoc_eq]
      exact hI hu
  · rcases hl with hl | hl
    · rcases h.ne with h1 | h1
      · exact Or.inl h1
      · refine Or.inr (fun e => h1 ?_)
        rw [hl]
        exact e
    · cases hv : v4.ownBlock with
      | none => exact Or.inl rfl
      | some q =>
        refine Or.inr (fun e => ?_)
        have h1 := (h.cr.lt q hv).2
        have h2 : q = g := Option.some.inj e
        omega
end
/-- What ref.CanonForm hands back. -/
def FormOut (C : List Cr) (loops : Int) (w : World) (e : Ending) (w' : World) : Prop := ∃ (v : Value) (V τ : List Nat), e = .returned (.agg #[v, .int .i64 loops]) ∧ Least (arcE C) C.length V ∧ τ.Perm (List.range (hdTo V C.length).length) ∧ SortedT (fun i => leT C (wI V) ((hdTo V C.length).getD i 0) C.length) τ ∧ w'.ownsRow w.heap.size 33 5 v (canGo C [] ((τ.map fun i => (leT C (wI V) ((hdTo V C.length).getD i 0) C.length).1).flatten)).length (crossCells (canGo C [] ((τ.map fun i => (leT C (wI V) ((hdTo V C.length).getD i 0) C.length).1).flatten))) ∧ Below w.heap.size w w'
end Go.Proofs.YtlimfajjmhfnaaaGreatDoor
/- What a code tells: mathematics. Pieces of the same code have, numbered as they are told, the same crossings. -/
namespace Go.Proofs.YtlimfajjmhfnaaaGreatDoor

theorem enS_one {C : List Cr} {loops : Int} (hm : mayD C loops = true) (k s : Nat) (hk : k < C.length) (hs : s < 4) : enS C ((C.getD k Cr.none).arc s).toNat ((C.getD k Cr.none).comes s) = s := by
  have hf := may_fit hm k s hk hs
  have g1 := hf.1
  have g2 := hf.2.1
  have e := end_one hm ((C.getD k Cr.none).arc s).toNat (by omega) (by omega) ((C.getD k Cr.none).comes s) k s hk hs (by omega) rfl
  unfold enS
  rw [e]
  rfl
/-- Two spots have the same arc just if they are one, or each the other's end. -/
theorem spot_eq {C : List Cr} {loops : Int} (hm : mayD C loops = true) {c s d t : Nat} (hc : c < C.length) (hs : s < 4) (hd : d < C.length) (ht : t < 4) (h : arcN (C.getD c Cr.none) s = arcN (C.getD d Cr.none) t) : (c = d ∧ s = t) ∨ (nbC C c s = d ∧ nbS C c s = t) := by
  unfold arcN at h
  have a1 := (en_one hm c s hc hs).2.2
  have a2 := enS_one hm c s hc hs
  have b1 := (en_one hm d t hd ht).2.2
  have b2 := enS_one hm d t hd ht
  by_cases e : (C.getD c Cr.none).comes s = (C.getD d Cr.none).comes t
  · left
    rw [h, e] at a1 a2
    exact ⟨a1.symm.trans b1, a2.symm.trans b2⟩
  · right
    have e2 : (!(C.getD c Cr.none).comes s) = (C.getD d Cr.none).comes t := by
      cases h1 : (C.getD c Cr.none).comes s <;> cases h2 : (C.getD d Cr.none).comes t <;> simp_all
    unfold nbC nbS
    rw [h, e2]
    exact ⟨b1, b2⟩
theorem spot_nb {C : List Cr} {loops : Int} (hm : mayD C loops = true) {c s : Nat} (hc : c < C.length) (hs : s < 4) : arcN (C.getD (nbC C c s) Cr.none) (nbS C c s) = arcN (C.getD c Cr.none) s := by
  have h := en_one hm c s hc hs
  have g := (en_may hm _ (!(C.getD c Cr.none).comes s) h.1 h.2.1).2.2.2.1
  unfold arcN nbC nbS
  rw [g]
  rfl
/-- What is told of crossing number l. -/
structure ToldAt (C : List Cr) (p : List Nat × List Int) (l : Nat) : Prop where
  sg : p.2.getD (9 * l) 0 = if (C.getD (p.1.getD l 0) Cr.none).plus = true then 1 else 0
  mem : ∀ s, s < 4 → nbC C (p.1.getD l 0) s ∈ p.1
  nb : ∀ s, s < 4 → p.2.getD (9 * l + 1 + 2 * s) 0 = (p.1.idxOf (nbC C (p.1.getD l 0) s) : Int)
  side : ∀ s, s < 4 → p.2.getD (9 * l + 2 + 2 * s) 0 = (nbS C (p.1.getD l 0) s : Int)
theorem getD_pre {α : Type} {a b : List α} (h : a <+: b) (i : Nat) (hi : i < a.length) (d : α) : b.getD i d = a.getD i d := by
  obtain ⟨t, rfl⟩ := h
  simp [List.getD, List.getElem?_append_left hi]
theorem idxOf_pre {a b : List Nat} (h : a <+: b) {x : Nat} (hx : x ∈ a) : b.idxOf x = a.idxOf x := by
  obtain ⟨t, rfl⟩ := h
  rw [List.idxOf_append, if_pos hx]
theorem ToldAt.ext {C : List Cr} {p q : List Nat × List Int} {l : Nat} (h : ToldAt C p l) (h1 : p.1 <+: q.1) (h2 : p.2 <+: q.2) (hl : l < p.1.length) (hc : 9 * l + 9 ≤ p.2.length) : ToldAt C q l := by
  have e := getD_pre h1 l hl 0
  refine ⟨?_, fun s hs => ?_, fun s hs => ?_, fun s hs => ?_⟩
  · rw [e, getD_pre h2 _ (by omega)]; exact h.sg
  · rw [e]; exact h1.subset (h.mem s hs)
  · rw [e, getD_pre h2 _ (by omega), idxOf_pre h1 (h.mem s hs)]; exact h.nb s hs
  · rw [e, getD_pre h2 _ (by omega)]; exact h.side s hs
theorem teS_pre2 (C : List Cr) (c : Nat) (p : List Nat × List Int) (s : Nat) : p.2 <+: (teS C c p s).2 := List.prefix_append _ _
theorem teK_pre2 (C : List Cr) (i : Nat) (p : List Nat × List Int) (k : Nat) : p.2 <+: (teK C i p k).2 := by
  induction k with
  | zero => exact List.prefix_append _ _
  | succ k ih => exact ih.trans (teS_pre2 _ _ _ _)
theorem teK_told (C : List Cr) (i : Nat) (p : List Nat × List Int) (hi : i < p.1.length) (hc : p.2.length = 9 * i) : ToldAt C (teK C i p 4) i := by
  have hp1 : p.1 <+: (teK C i p 4).1 := teK_pre C i p 4
  have ei : (teK C i p 4).1.getD i 0 = p.1.getD i 0 := getD_pre hp1 i hi 0
  have step : ∀ k, k ≤ 4 → (teK C i p k).2.getD (9 * i) 0 = (if (C.getD (p.1.getD i 0) Cr.none).plus = true then 1 else 0) ∧ ∀ s, s < k → nbC C (p.1.getD i 0) s ∈ (teK C i p k).1 ∧ (teK C i p k).2.getD (9 * i + 1 + 2 * s) 0 = ((teK C i p k).1.idxOf (nbC C (p.1.getD i 0) s) : Int) ∧ (teK C i p k).2.getD (9 * i + 2 + 2 * s) 0 = (nbS C (p.1.getD i 0) s : Int) := by
    intro k
    induction k with
    | zero =>
      intro _
      refine ⟨?_, fun s hs => absurd hs (Nat.not_lt_zero _)⟩
      rw [teK, ← hc]
      simp [List.getD]
    | succ k ih =>
      intro hk
      obtain ⟨g1, g2⟩ := ih (by omega)
      have hl := teK_len C i p k
      have q1 : (teK C i p k).1 <+: (teK C i p (k + 1)).1 := teS_pre _ _ _ _
      have q2 : (teK C i p k).2 <+: (teK C i p (k + 1)).2 := teS_pre2 _ _ _ _
      refine ⟨by rw [getD_pre q2 _ (by omega)]; exact g1, fun s hs => ?_⟩
      by_cases e : s < k
      · obtain ⟨m1, m2, m3⟩ := g2 s e
        exact ⟨q1.subset m1, by rw [getD_pre q2 _ (by omega), idxOf_pre q1 m1]; exact m2, by rw [getD_pre q2 _ (by omega)]; exact m3⟩
      · have e2 : s = k := by omega
        subst e2
        rw [teK]
        unfold teS
        simp only
        generalize hO : (if nbC C (p.1.getD i 0) s ∈ (teK C i p s).1 then (teK C i p s).1 else (teK C i p s).1 ++ [nbC C (p.1.getD i 0) s]) = o
        have hmo : nbC C (p.1.getD i 0) s ∈ o := by
          rw [← hO]
          split
          · assumption
          · simp
        refine ⟨hmo, ?_, ?_⟩
        · rw [List.getD_eq_getElem?_getD, List.getElem?_append_right (by omega), show 9 * i + 1 + 2 * s - (teK C i p s).2.length = 0 by omega]
          rfl
        · rw [List.getD_eq_getElem?_getD, List.getElem?_append_right (by omega), show 9 * i + 2 + 2 * s - (teK C i p s).2.length = 1 by omega]
          rfl
  obtain ⟨h1, h2⟩ := step 4 (Nat.le_refl _)
  exact ⟨by rw [ei]; exact h1, fun s hs => by rw [ei]; exact (h2 s hs).1, fun s hs => by rw [ei]; exact (h2 s hs).2.1, fun s hs => by rw [ei]; exact (h2 s hs).2.2⟩
theorem teI_told (C : List Cr) (f i : Nat) : ∀ l, l < i → l < (teI C f i).1.length → ToldAt C (teI C f i) l := by
  induction i with
  | zero => intro l hl; omega
  | succ i ih =>
    intro l hl hll
    rw [teI] at hll ⊢
    by_cases h : i < (teI C f i).1.length
    · rw [if_pos h] at hll ⊢
      have h9 : (teI C f i).2.length = 9 * i := by
        rcases teI_len9 (C := C) f i with ⟨_, b⟩ | ⟨a, b⟩
        · exact b
        · omega
      by_cases e : l = i
      · subst e
        exact teK_told C l _ h h9
      · exact (ih l (by omega) (by omega)).ext (teK_pre C i _ 4) (teK_pre2 C i _ 4) (by omega) (by omega)
    · rw [if_neg h] at hll ⊢
      exact ih l (by omega) hll
theorem te_told {C : List Cr} {loops : Int} (hm : mayD C loops = true) {f : Nat} (hf : f < C.length) : ∀ l, l < (te C f).1.length → ToldAt C (te C f) l := by
  intro l hl
  have h1 := (teI_ok hm hf C.length).few
  unfold te at hl ⊢
  exact teI_told C f C.length l (by omega) hl
/-- All of a telling lies in one piece. -/
theorem teI_con {C : List Cr} {loops : Int} (hm : mayD C loops = true) {f : Nat} (hf : f < C.length) (i : Nat) : ∀ x, x ∈ (teI C f i).1 → Con (arcE C) f x := by
  induction i with
  | zero =>
    intro x hx
    have e : x = f := by simpa [teI] using hx
    rw [e]; exact Con.refl _ _
  | succ i ih =>
    rw [teI]
    by_cases h : i < (teI C f i).1.length
    · rw [if_pos h]
      have hok := teI_ok hm hf i
      have hci : (teI C f i).1.getD i 0 ∈ (teI C f i).1 := by rw [List.getD_eq_getElem?_getD, List.getElem?_eq_getElem h]; exact List.getElem_mem h
      have step : ∀ k, k ≤ 4 → ∀ x, x ∈ (teK C i (teI C f i) k).1 → Con (arcE C) f x := by
        intro k
        induction k with
        | zero => intro _ x hx; exact ih x hx
        | succ k ihk =>
          intro hk x hx
          rw [teK] at hx
          unfold teS at hx
          simp only at hx
          split at hx
          · exact ihk (by omega) x hx
          · rcases List.mem_append.1 hx with hx | hx
            · exact ihk (by omega) x hx
            · rw [List.mem_singleton.1 hx]
              exact (ih _ hci).trans (nb_con hm _ k (hok.lt _ hci) (by omega))
      exact step 4 (Nat.le_refl _)
    · rw [if_neg h]; exact ih
theorem te_con {C : List Cr} {loops : Int} (hm : mayD C loops = true) {f : Nat} (hf : f < C.length) : ∀ x, x ∈ (te C f).1 → Con (arcE C) f x := teI_con hm hf C.length
theorem te_ok {C : List Cr} {loops : Int} (hm : mayD C loops = true) {f : Nat} (hf : f < C.length) : TeOk C (te C f) := teI_ok hm hf C.length
end Go.Proofs.YtlimfajjmhfnaaaGreatDoor
/- Both ways of making the canonical form come to one: mathematics. -/
namespace Go.Proofs.YtlimfajjmhfnaaaGreatDoor

theorem idxOf_map {ρ : Nat → Nat} {A : Nat → Prop} (hinj : ∀ x y, A x → A y → ρ x = ρ y → x = y) : ∀ (F : List Nat) (x : Nat), (∀ y, y ∈ F → A y) → A x → (F.map ρ).idxOf (ρ x) = F.idxOf x
  | [], _, _, _ => rfl
  | z :: F, x, hF, hx => by
    rw [List.map_cons, List.idxOf_cons, List.idxOf_cons, idxOf_map hinj F x (fun y hy => hF y (List.mem_cons_of_mem _ hy)) hx]
    by_cases e : z = x
    · subst e; simp
    · have e2 : ρ z ≠ ρ x := fun h => e (hinj z x (hF z (List.mem_cons_self)) hx h)
      rw [beq_eq_false_iff_ne.2 e, beq_eq_false_iff_ne.2 e2]
theorem mem_map_inj {ρ : Nat → Nat} {A : Nat → Prop} (hinj : ∀ x y, A x → A y → ρ x = ρ y → x = y) {F : List Nat} {x : Nat} (hF : ∀ y, y ∈ F → A y) (hx : A x) : ρ x ∈ F.map ρ ↔ x ∈ F := by
  constructor
  · intro h
    obtain ⟨y, hy, e⟩ := List.mem_map.1 h
    rw [← hinj y x (hF y hy) hx e]; exact hy
  · intro h; exact List.mem_map_of_mem h
theorem addF_map {ρ : Nat → Nat} {A : Nat → Prop} (hinj : ∀ x y, A x → A y → ρ x = ρ y → x = y) {F : List Nat} {x : Nat} (hF : ∀ y, y ∈ F → A y) (hx : A x) : addF (F.map ρ) (ρ x) = (addF F x).map ρ := by
  unfold addF
  by_cases h : x ∈ F
  · rw [if_pos h, if_pos ((mem_map_inj hinj hF hx).2 h)]
  · rw [if_neg h, if_neg (fun e => h ((mem_map_inj hinj hF hx).1 e))]; simp
theorem addF_mem {A : Nat → Prop} {F : List Nat} {x : Nat} (hF : ∀ y, y ∈ F → A y) (hx : A x) : ∀ y, y ∈ addF F x → A y := by
  intro y hy
  unfold addF at hy
  split at hy
  · exact hF y hy
  · rcases List.mem_append.1 hy with h | h
    · exact hF y h
    · rw [List.mem_singleton.1 h]; exact hx
theorem addN_map {ρ : Nat → Nat} {A : Nat → Prop} (hinj : ∀ x y, A x → A y → ρ x = ρ y → x = y) {F : List Nat} {x y : Cr} (hF : ∀ z, z ∈ F → A z) (h : ∀ s, s < 4 → A (arcN x s) ∧ arcN y s = ρ (arcN x s)) : ∀ k, k ≤ 4 → addN (F.map ρ) y k = (addN F x k).map ρ ∧ ∀ z, z ∈ addN F x k → A z := by
  intro k
  induction k with
  | zero => intro _; exact ⟨rfl, hF⟩
  | succ k ih =>
    intro hk
    obtain ⟨h1, h2⟩ := ih (by omega)
    obtain ⟨g1, g2⟩ := h k (by omega)
    rw [addN, addN, h1, g2]
    exact ⟨addF_map hinj h2 g1, addF_mem h2 g1⟩
theorem canX_map {ρ : Nat → Nat} {A : Nat → Prop} (hinj : ∀ x y, A x → A y → ρ x = ρ y → x = y) {F : List Nat} {x y : Cr} (hF : ∀ z, z ∈ F → A z) (h : ∀ s, s < 4 → A (arcN x s) ∧ arcN y s = ρ (arcN x s)) (hp : y.plus = x.plus) : canX (F.map ρ) y = canX F x := by
  have hn : ∀ k, k < 4 → canN (F.map ρ) y k = canN F x k := fun k hk => by
    obtain ⟨h1, h2⟩ := addN_map hinj hF h (k + 1) (by omega)
    obtain ⟨g1, g2⟩ := h k hk
    unfold canN
    rw [h1, g2, idxOf_map hinj _ _ h2 g1]
  unfold canX
  rw [hn 0 (by omega), hn 1 (by omega), hn 2 (by omega), hn 3 (by omega), hp]
theorem canGo_map {C : List Cr} {ρ : Nat → Nat} {A : Nat → Prop} (hinj : ∀ x y, A x → A y → ρ x = ρ y → x = y) : ∀ (o1 o2 F : List Nat), o1.length = o2.length → (∀ z, z ∈ F → A z) →
    (∀ q, q ∈ o1.zip o2 → (∀ s, s < 4 → A (arcN (C.getD q.1 Cr.none) s) ∧ arcN (C.getD q.2 Cr.none) s = ρ (arcN (C.getD q.1 Cr.none) s)) ∧ (C.getD q.2 Cr.none).plus = (C.getD q.1 Cr.none).plus) → canGo C (F.map ρ) o2 = canGo C F o1
  | [], [], _, _, _, _ => rfl
  | [], _ :: _, _, h, _, _ => by simp at h
  | _ :: _, [], _, h, _, _ => by simp at h
  | c :: o1, d :: o2, F, h, hF, hz => by
    obtain ⟨g1, g2⟩ := hz (c, d) (by simp)
    obtain ⟨h1, h2⟩ := addN_map hinj hF g1 4 (Nat.le_refl _)
    rw [canGo, canGo, canX_map hinj hF g1 g2, h1, canGo_map hinj o1 o2 _ (by simpa using h) h2 (fun q hq => hz q (by simp [hq]))]
/-- Tellings of the diagram. -/
def IsTe (C : List Cr) (p : List Nat × List Int) : Prop := ∃ k, k < C.length ∧ p = te C k
def ords (A : List (List Nat × List Int)) : List Nat := (A.map Prod.fst).flatten
theorem keyT_eq {p q : List Nat × List Int} (h : keyT p = keyT q) : p.1.length = q.1.length ∧ p.2 = q.2 := by
  unfold keyT at h
  injection h with h1 h2
  exact ⟨by omega, h2⟩
theorem zip_ords : ∀ (A B : List (List Nat × List Int)), A.map keyT = B.map keyT → (ords A).zip (ords B) = ((A.zip B).map fun a => a.1.1.zip a.2.1).flatten ∧ (ords A).length = (ords B).length
  | [], [], _ => ⟨rfl, rfl⟩
  | [], _ :: _, h => by simp at h
  | _ :: _, [], h => by simp at h
  | p :: A, q :: B, h => by
    rw [List.map_cons, List.map_cons] at h
    injection h with h1 h2
    obtain ⟨i1, i2⟩ := zip_ords A B h2
    have hl := (keyT_eq h1).1
    have e1 : ords (p :: A) = p.1 ++ ords A := by simp [ords]
    have e2 : ords (q :: B) = q.1 ++ ords B := by simp [ords]
    refine ⟨?_, ?_⟩
    · rw [e1, e2, List.zip_append hl, i1]
      simp
    · rw [e1, e2, List.length_append, List.length_append, hl, i2]
theorem zip_keys : ∀ (A B : List (List Nat × List Int)), A.map keyT = B.map keyT → ∀ a, a ∈ A.zip B → keyT a.1 = keyT a.2
  | [], _, _, a, ha => by simp at ha
  | _ :: _, [], _, a, ha => by simp at ha
  | p :: A, q :: B, h, a, ha => by
    rw [List.map_cons, List.map_cons] at h
    injection h with h1 h2
    rw [List.zip_cons_cons] at ha
    rcases List.mem_cons.1 ha with e | e
    · rw [e]; exact h1
    · exact zip_keys A B h2 a e
/-- Where two crossings stand against one another. -/
theorem zip_at {A B : List (List Nat × List Int)} (hk : A.map keyT = B.map keyT) {c d : Nat} (h : (c, d) ∈ (ords A).zip (ords B)) : ∃ p q l, (p, q) ∈ A.zip B ∧ l < p.1.length ∧ p.1.getD l 0 = c ∧ q.1.getD l 0 = d := by
  rw [(zip_ords A B hk).1] at h
  obtain ⟨z, hz, hcd⟩ := List.mem_flatten.1 h
  obtain ⟨a, ha, rfl⟩ := List.mem_map.1 hz
  have hl := (keyT_eq (zip_keys A B hk a ha)).1
  obtain ⟨l, hlt, he⟩ := List.getElem_of_mem hcd
  have h1 : l < a.1.1.length := by simp at hlt; omega
  rw [List.getElem_zip] at he
  injection he with e1 e2
  exact ⟨a.1, a.2, l, ha, h1, by rw [List.getD_eq_getElem?_getD, List.getElem?_eq_getElem h1]; exact e1, by rw [List.getD_eq_getElem?_getD, List.getElem?_eq_getElem (by omega)]; exact e2⟩
theorem zip_of {A B : List (List Nat × List Int)} (hk : A.map keyT = B.map keyT) {p q : List Nat × List Int} {l : Nat} (ha : (p, q) ∈ A.zip B) (hl : l < p.1.length) : (p.1.getD l 0, q.1.getD l 0) ∈ (ords A).zip (ords B) := by
  rw [(zip_ords A B hk).1]
  have hq := (keyT_eq (zip_keys A B hk _ ha)).1
  have hq' : l < q.1.length := by have : p.1.length = q.1.length := hq; omega
  refine List.mem_flatten.2 ⟨p.1.zip q.1, List.mem_map.2 ⟨(p, q), ha, rfl⟩, ?_⟩
  refine List.mem_iff_getElem?.2 ⟨l, ?_⟩
  rw [List.getElem?_zip_eq_some]
  exact ⟨by simp [List.getD, hl], by simp [List.getD, hq']⟩
theorem zip_one {l1 l2 : List Nat} (hn : l1.Nodup) {c x y : Nat} (h1 : (c, x) ∈ l1.zip l2) (h2 : (c, y) ∈ l1.zip l2) : x = y := by
  obtain ⟨i, hi⟩ := List.mem_iff_getElem?.1 h1
  obtain ⟨j, hj⟩ := List.mem_iff_getElem?.1 h2
  rw [List.getElem?_zip_eq_some] at hi hj
  obtain ⟨li, ei⟩ := List.getElem?_eq_some_iff.1 hi.1
  obtain ⟨lj, ej⟩ := List.getElem?_eq_some_iff.1 hj.1
  have e : i = j := (List.getElem_inj hn).1 (ei.trans ej.symm)
  subst e
  exact Option.some.inj (hi.2.symm.trans hj.2)
theorem zip_flip {l1 l2 : List Nat} {c d : Nat} (h : (c, d) ∈ l1.zip l2) : (d, c) ∈ l2.zip l1 := by
  obtain ⟨i, hi⟩ := List.mem_iff_getElem?.1 h
  rw [List.getElem?_zip_eq_some] at hi
  exact List.mem_iff_getElem?.2 ⟨i, by rw [List.getElem?_zip_eq_some]; exact ⟨hi.2, hi.1⟩⟩
theorem getD_idxOf {l : List Nat} {x : Nat} (h : x ∈ l) : l.getD (l.idxOf x) 0 = x := by
  have hl := List.idxOf_lt_length_of_mem h
  rw [List.getD_eq_getElem?_getD, List.getElem?_eq_getElem hl]
  exact List.getElem_idxOf hl
/-- Arcs that are one there are one here. -/
theorem arcs_go {C : List Cr} {loops : Int} (hm : mayD C loops = true) {A B : List (List Nat × List Int)} (hA : ∀ p, p ∈ A → IsTe C p) (hB : ∀ p, p ∈ B → IsTe C p) (hk : A.map keyT = B.map keyT) (nd : (ords A).Nodup) {c1 c2 d1 d2 s t : Nat} (h1 : (c1, c2) ∈ (ords A).zip (ords B)) (h2 : (d1, d2) ∈ (ords A).zip (ords B)) (hs : s < 4) (ht : t < 4) (he : arcN (C.getD c1 Cr.none) s = arcN (C.getD d1 Cr.none) t) : arcN (C.getD c2 Cr.none) s = arcN (C.getD d2 Cr.none) t := by
  obtain ⟨p, q, l, hpq, hl, ec1, ec2⟩ := zip_at hk h1
  obtain ⟨p', q', l', hpq', hl', ed1, ed2⟩ := zip_at hk h2
  have hkey : keyT p = keyT q := zip_keys A B hk _ hpq
  obtain ⟨hln, hcd⟩ := keyT_eq hkey
  obtain ⟨k, hkC, ep⟩ := hA p (List.of_mem_zip hpq).1
  obtain ⟨k2, hk2C, eq⟩ := hB q (List.of_mem_zip hpq).2
  obtain ⟨k3, hk3C, ep'⟩ := hA p' (List.of_mem_zip hpq').1
  have hc1 : c1 < C.length := by
    rw [← ec1]
    rw [ep] at hl ⊢
    exact (te_ok hm hkC).lt _ (by rw [List.getD_eq_getElem?_getD, List.getElem?_eq_getElem hl]; exact List.getElem_mem hl)
  have hd1 : d1 < C.length := by
    rw [← ed1]
    rw [ep'] at hl' ⊢
    exact (te_ok hm hk3C).lt _ (by rw [List.getD_eq_getElem?_getD, List.getElem?_eq_getElem hl']; exact List.getElem_mem hl')
  have hlq : l < q.1.length := by omega
  have hc2 : c2 < C.length := by
    rw [← ec2]
    rw [eq] at hlq ⊢
    exact (te_ok hm hk2C).lt _ (by rw [List.getD_eq_getElem?_getD, List.getElem?_eq_getElem hlq]; exact List.getElem_mem hlq)
  rcases spot_eq hm hc1 hs hd1 ht he with ⟨e1, e2⟩ | ⟨e1, e2⟩
  · subst e1 e2
    rw [zip_one nd h1 h2]
  · have tp : ToldAt C p l := by rw [ep] at hl ⊢; exact te_told hm hkC l hl
    have tq : ToldAt C q l := by rw [eq] at hlq ⊢; exact te_told hm hk2C l hlq
    have m1 := tp.mem s hs
    have n1 := tp.nb s hs
    have s1 := tp.side s hs
    have m2 := tq.mem s hs
    have n2 := tq.nb s hs
    have s2 := tq.side s hs
    rw [ec1, e1] at m1 n1
    rw [ec1, e2] at s1
    rw [ec2] at m2 n2 s2
    rw [hcd, n2] at n1
    rw [hcd, s2] at s1
    have hid : q.1.idxOf (nbC C c2 s) = p.1.idxOf d1 := by omega
    have hsd : nbS C c2 s = t := by omega
    have hx := zip_of hk hpq (List.idxOf_lt_length_of_mem m1)
    rw [getD_idxOf m1, ← hid, getD_idxOf m2] at hx
    have hd2 : d2 = nbC C c2 s := zip_one nd h2 hx
    rw [hd2, ← hsd]
    exact (spot_nb hm hc2 hs).symm
theorem plus_go {C : List Cr} {loops : Int} (hm : mayD C loops = true) {A B : List (List Nat × List Int)} (hA : ∀ p, p ∈ A → IsTe C p) (hB : ∀ p, p ∈ B → IsTe C p) (hk : A.map keyT = B.map keyT) {c1 c2 : Nat} (h1 : (c1, c2) ∈ (ords A).zip (ords B)) : (C.getD c2 Cr.none).plus = (C.getD c1 Cr.none).plus := by
  obtain ⟨p, q, l, hpq, hl, ec1, ec2⟩ := zip_at hk h1
  obtain ⟨hln, hcd⟩ := keyT_eq (zip_keys A B hk _ hpq)
  obtain ⟨k, hkC, ep⟩ := hA p (List.of_mem_zip hpq).1
  obtain ⟨k2, hk2C, eq⟩ := hB q (List.of_mem_zip hpq).2
  have hlq : l < q.1.length := by have : p.1.length = q.1.length := hln; omega
  have tp : ToldAt C p l := by rw [ep] at hl ⊢; exact te_told hm hkC l hl
  have tq : ToldAt C q l := by rw [eq] at hlq ⊢; exact te_told hm hk2C l hlq
  have g1 := tp.sg
  have g2 := tq.sg
  have hcd' : p.2 = q.2 := hcd
  rw [ec1, hcd'] at g1
  rw [ec2] at g2
  rw [g2] at g1
  cases h3 : (C.getD c1 Cr.none).plus <;> cases h4 : (C.getD c2 Cr.none).plus <;> simp_all
theorem can_same {C : List Cr} {loops : Int} (hm : mayD C loops = true) {A B : List (List Nat × List Int)} (hA : ∀ p, p ∈ A → IsTe C p) (hB : ∀ p, p ∈ B → IsTe C p) (hk : A.map keyT = B.map keyT) (ndA : (ords A).Nodup) (ndB : (ords B).Nodup) : canGo C [] (ords B) = canGo C [] (ords A) := by
  have hex : ∀ x : Nat, ∃ y : Nat, ∀ q, q ∈ (ords A).zip (ords B) → ∀ s, s < 4 → arcN (C.getD q.1 Cr.none) s = x → arcN (C.getD q.2 Cr.none) s = y := by
    intro x
    by_cases h : ∃ q s, q ∈ (ords A).zip (ords B) ∧ s < 4 ∧ arcN (C.getD q.1 Cr.none) s = x
    · obtain ⟨q, s, hq, hs, he⟩ := h
      exact ⟨arcN (C.getD q.2 Cr.none) s, fun q' hq' s' hs' he' => arcs_go hm hA hB hk ndA (c1 := q'.1) (c2 := q'.2) (d1 := q.1) (d2 := q.2) hq' hq hs' hs (he'.trans he.symm)⟩
    · exact ⟨0, fun q hq s hs he => absurd ⟨q, s, hq, hs, he⟩ h⟩
  obtain ⟨ρ, hρ⟩ := Classical.axiomOfChoice hex
  have hinj : ∀ x y, (∃ q s, q ∈ (ords A).zip (ords B) ∧ s < 4 ∧ arcN (C.getD q.1 Cr.none) s = x) → (∃ q s, q ∈ (ords A).zip (ords B) ∧ s < 4 ∧ arcN (C.getD q.1 Cr.none) s = y) → ρ x = ρ y → x = y := by
    rintro x y ⟨q, s, hq, hs, rfl⟩ ⟨r, t, hr, ht, rfl⟩ e
    rw [← hρ _ q hq s hs rfl, ← hρ _ r hr t ht rfl] at e
    exact arcs_go hm hB hA hk.symm ndB (c1 := q.2) (c2 := q.1) (d1 := r.2) (d2 := r.1) (zip_flip hq) (zip_flip hr) hs ht e
  exact canGo_map hinj (ords A) (ords B) [] (zip_ords A B hk).2 (fun z hz => by cases hz) (fun q hq => ⟨fun s hs => ⟨⟨q, s, hq, hs, rfl⟩, hρ _ q hq s hs rfl⟩, plus_go hm hA hB hk (c1 := q.1) (c2 := q.2) hq⟩)
end Go.Proofs.YtlimfajjmhfnaaaGreatDoor
/- The canonical forms of canon.Canon and ref.CanonForm are one: mathematics. -/
namespace Go.Proofs.YtlimfajjmhfnaaaGreatDoor

theorem sort_eq : ∀ (a b : List (List Int)), a.Perm b → a.Pairwise (fun x y => ¬lexC y x < 0) → b.Pairwise (fun x y => ¬lexC y x < 0) → a = b
  | [], b, h, _, _ => (List.Perm.nil_eq h)
  | x :: a, [], h, _, _ => by have := h.length_eq; simp at this
  | x :: a, y :: b, h, ha, hb => by
    have hx := List.pairwise_cons.1 ha
    have hy := List.pairwise_cons.1 hb
    have e : x = y := by
      rcases lexC_flip x y with g | g | g
      · have hm : x ∈ y :: b := h.subset (List.mem_cons_self)
        rcases List.mem_cons.1 hm with e | e
        · exact e
        · exact absurd g (hy.1 x e)
      · exact lexC_zero _ _ g
      · have hm : y ∈ x :: a := h.symm.subset (List.mem_cons_self)
        rcases List.mem_cons.1 hm with e | e
        · exact e.symm
        · exact absurd g (hx.1 y e)
    subst e
    rw [sort_eq a b (List.Perm.cons_inv h) hx.2 hy.2]
theorem sorted_keys {L : Nat → List Nat × List Int} {σ : List Nat} (h : SortedT L σ) : ((σ.map L).map keyT).Pairwise (fun x y => ¬lexC y x < 0) := by
  rw [List.map_map, List.pairwise_map]
  refine h.imp ?_
  intro x y hxy
  rw [cmpT_key] at hxy
  exact hxy
theorem perm_range {l : List Nat} {c : Nat} (hn : l.Nodup) (h : ∀ x, x ∈ l ↔ x < c) : l.Perm (List.range c) := by
  refine List.perm_iff_count.2 fun a => ?_
  by_cases ha : a < c
  · rw [List.Nodup.count hn, if_pos ((h a).2 ha), List.Nodup.count List.nodup_range, if_pos (List.mem_range.2 ha)]
  · rw [List.count_eq_zero_of_not_mem (fun e => ha ((h a).1 e)), List.count_eq_zero_of_not_mem (fun e => ha (List.mem_range.1 e))]
theorem mem_hdTo (V : List Nat) (p x : Nat) : x ∈ hdTo V p ↔ x < p ∧ V.getD x 0 = x := by
  induction p with
  | zero => simp [hdTo]
  | succ p ih =>
    rw [hdTo]
    split
    · rename_i e
      rw [List.mem_append, ih, List.mem_singleton]
      constructor
      · rintro (h | h)
        · exact ⟨by omega, h.2⟩
        · subst h; exact ⟨by omega, e⟩
      · rintro ⟨h1, h2⟩
        by_cases e2 : x = p
        · exact Or.inr e2
        · exact Or.inl ⟨by omega, h2⟩
    · rename_i e
      rw [ih]
      constructor
      · exact fun h => ⟨by omega, h.2⟩
      · rintro ⟨h1, h2⟩
        refine ⟨?_, h2⟩
        by_cases e2 : x = p
        · subst e2; exact absurd h2 e
        · omega
theorem hdTo_nodup (V : List Nat) (p : Nat) : (hdTo V p).Nodup := by
  induction p with
  | zero => exact List.nodup_nil
  | succ p ih =>
    rw [hdTo]
    split
    · refine List.nodup_append.2 ⟨ih, by simp, fun a ha b hb e => ?_⟩
      rw [List.mem_singleton.1 hb] at e
      rw [e] at ha
      have := ((mem_hdTo V p p).1 ha).1
      omega
    · exact ih
theorem leT_congr (C : List Cr) (P Q : List Int) (p q : Nat) : ∀ n, (∀ k, k < n → (P.getD k 0 = (p : Int) ↔ Q.getD k 0 = (q : Int))) → leT C P p n = leT C Q q n := by
  intro n
  induction n with
  | zero => intro _; rfl
  | succ n ih =>
    intro h
    rw [leT, leT, ih (fun k hk => h k (by omega))]
    have e := h n (by omega)
    by_cases h1 : P.getD n 0 = (p : Int)
    · have h2 := e.1 h1
      simp only [h1, h2, true_and]
    · have h2 : ¬Q.getD n 0 = (q : Int) := fun x => h1 (e.2 x)
      rw [if_neg (fun x => h1 x.1), if_neg (fun x => h2 x.1)]
theorem leT_is (C : List Cr) (P : List Int) (p : Nat) : ∀ n, (leT C P p n = ([], []) ∧ ∀ k, k < n → P.getD k 0 ≠ (p : Int)) ∨ ∃ k, k < n ∧ P.getD k 0 = (p : Int) ∧ leT C P p n = te C k := by
  intro n
  induction n with
  | zero => exact Or.inl ⟨rfl, fun k hk => absurd hk (Nat.not_lt_zero _)⟩
  | succ n ih =>
    rw [leT]
    by_cases h1 : P.getD n 0 = (p : Int)
    · by_cases h2 : (leT C P p n).1 = [] ∨ cmpT (te C n) (leT C P p n) < 0
      · rw [if_pos ⟨h1, h2⟩]; exact Or.inr ⟨n, by omega, h1, rfl⟩
      · rw [if_neg (fun x => h2 x.2)]
        rcases ih with ⟨a, b⟩ | ⟨k, a, b, c⟩
        · exact absurd (Or.inl (by rw [a])) h2
        · exact Or.inr ⟨k, by omega, b, c⟩
    · rw [if_neg (fun x => h1 x.1)]
      rcases ih with ⟨a, b⟩ | ⟨k, a, b, c⟩
      · refine Or.inl ⟨a, fun k hk => ?_⟩
        by_cases e : k = n
        · rw [e]; exact h1
        · exact b k (by omega)
      · exact Or.inr ⟨k, by omega, b, c⟩
theorem ords_perm {A B : List (List Nat × List Int)} (h : A.Perm B) : (ords A).Perm (ords B) := by
  unfold ords
  exact (h.map Prod.fst).flatten
/-- The pieces' tellings by both numberings of pieces. -/
theorem forms_one {C : List Cr} {loops : Int} (hm : mayD C loops = true) {P : List Int} {n : Nat} {σ V τ : List Nat} (hP : PcsAll C P n) (hσ : σ.Perm (List.range n)) (sσ : SortedT (fun p => leT C P p C.length) σ) (hV : Least (arcE C) C.length V) (hτ : τ.Perm (List.range (hdTo V C.length).length)) (sτ : SortedT (fun i => leT C (wI V) ((hdTo V C.length).getD i 0) C.length) τ) :
    canGo C [] ((σ.map fun p => (leT C P p C.length).1).flatten) = canGo C [] ((τ.map fun i => (leT C (wI V) ((hdTo V C.length).getD i 0) C.length).1).flatten) := by
  obtain ⟨Hs, hHs⟩ : ∃ Hs, hdTo V C.length = Hs := ⟨_, rfl⟩
  have hmem : ∀ x, x ∈ Hs ↔ x < C.length ∧ V.getD x 0 = x := fun x => by rw [← hHs]; exact mem_hdTo V _ x
  have hnd : Hs.Nodup := by rw [← hHs]; exact hdTo_nodup V _
  rw [hHs] at hτ sτ ⊢
  -- the number of a head's piece
  have hcls : ∀ h k, h ∈ Hs → k < C.length → (V.getD k 0 = h ↔ P.getD k 0 = P.getD h 0) := fun h k hh hk => by
    obtain ⟨h1, h2⟩ := (hmem h).1 hh
    rw [hP.same k h hk h1]
    have := hV.same hk h1
    rw [h2] at this
    exact this
  obtain ⟨ph, hph⟩ : ∃ ph : Nat → Nat, ph = fun h => (P.getD h 0).toNat := ⟨_, rfl⟩
  have hphv : ∀ h, h < C.length → P.getD h 0 = (ph h : Int) ∧ ph h < n := fun h hh => by
    have := hP.vals h hh
    rw [hph]
    simp only
    omega
  have hperm : (Hs.map ph).Perm (List.range n) := by
    refine perm_range ?_ fun p => ⟨fun hx => ?_, fun hx => ?_⟩
    · unfold List.Nodup
      rw [List.pairwise_map]
      refine List.Pairwise.imp_of_mem ?_ hnd
      intro h h' hh hh' hne e
      obtain ⟨a1, a2⟩ := (hmem h).1 hh
      obtain ⟨b1, b2⟩ := (hmem h').1 hh'
      have e2 := (hcls h' h hh' a1).2 (by rw [(hphv h a1).1, (hphv h' b1).1, e])
      exact hne (a2.symm.trans e2)
    · obtain ⟨h, hh, rfl⟩ := List.mem_map.1 hx
      exact (hphv h ((hmem h).1 hh).1).2
    · obtain ⟨v, hv, ev⟩ := hP.used p hx
      obtain ⟨c1, c2⟩ := hV.2 v hv
      have hle := c2 v (Con.refl _ _)
      have hlt : V.getD v 0 < C.length := by omega
      have e1 := (hV.same hv hlt).2 c1
      have e2 := (hP.same v _ hv hlt).2 c1
      refine List.mem_map.2 ⟨V.getD v 0, (hmem _).2 ⟨hlt, e1.symm⟩, ?_⟩
      have e3 := (hphv _ hlt).1
      rw [← e2, ev] at e3
      omega
  have hAB : (σ.map fun p => leT C P p C.length).Perm (τ.map fun i => leT C (wI V) (Hs.getD i 0) C.length) := by
    refine (hσ.map _).trans ((hperm.symm.map _).trans ?_)
    refine List.Perm.trans ?_ (hτ.symm.map _)
    have e1 : (Hs.map ph).map (fun p => leT C P p C.length) = Hs.map fun h => leT C (wI V) h C.length := by
      rw [List.map_map]
      refine List.map_congr_left fun h hh => ?_
      obtain ⟨a1, a2⟩ := (hmem h).1 hh
      refine leT_congr C P (wI V) (ph h) h C.length fun k hk => ?_
      rw [wI_at V k (by rw [hV.1]; exact hk), ← (hphv h a1).1]
      have := hcls h k hh hk
      rw [← this]
      exact ⟨fun e => by rw [e], fun e => by omega⟩
    have e2 : Hs = (List.range Hs.length).map fun i => Hs.getD i 0 := by
      apply List.ext_getElem?
      intro j
      by_cases hj : j < Hs.length
      · simp [hj, List.getD]
      · rw [List.getElem?_eq_none (by omega), List.getElem?_eq_none (by simp; omega)]
    rw [e1]
    have e3 : (Hs.map fun h => leT C (wI V) h C.length) = (List.range Hs.length).map fun i => leT C (wI V) (Hs.getD i 0) C.length := by
      conv => lhs; rw [e2]
      rw [List.map_map]
      rfl
    rw [e3]
  have hkeys := sort_eq _ _ (hAB.map keyT) (sorted_keys sσ) (sorted_keys sτ)
  have hte : ∀ p, p < n → ∃ k, k < C.length ∧ P.getD k 0 = (p : Int) ∧ leT C P p C.length = te C k := fun p hp => by
    rcases leT_is C P p C.length with ⟨_, b⟩ | h
    · obtain ⟨v, hv, ev⟩ := hP.used p hp
      exact absurd ev (b v hv)
    · exact h
  have hlt : ∀ p, p ∈ σ → p < n := fun p hp => List.mem_range.1 (hσ.subset hp)
  have hA : ∀ p, p ∈ (σ.map fun p => leT C P p C.length) → IsTe C p := fun p hp => by
    obtain ⟨q, hq, rfl⟩ := List.mem_map.1 hp
    obtain ⟨k, k1, -, k3⟩ := hte q (hlt q hq)
    exact ⟨k, k1, k3⟩
  have hB : ∀ p, p ∈ (τ.map fun i => leT C (wI V) (Hs.getD i 0) C.length) → IsTe C p := fun p hp => hA p (hAB.symm.subset hp)
  have hin : ∀ p, p < n → ∀ x, x ∈ (leT C P p C.length).1 → P.getD x 0 = (p : Int) := fun p hp x hx => by
    obtain ⟨k, k1, k2, k3⟩ := hte p hp
    rw [k3] at hx
    rw [← k2]
    exact ((hP.same k x k1 ((te_ok hm k1).lt x hx)).2 (te_con hm k1 x hx)).symm
  have hone : ∀ p, p < n → (leT C P p C.length).1.Nodup := fun p hp => by
    obtain ⟨k, k1, -, k3⟩ := hte p hp
    rw [k3]
    exact (te_ok hm k1).nd
  have hndl : ∀ l : List Nat, l.Nodup → (∀ p, p ∈ l → p < n) → (ords (l.map fun p => leT C P p C.length)).Nodup := by
    intro l
    induction l with
    | nil => intro _ _; exact List.nodup_nil
    | cons p l ih =>
      intro hl hp
      have hl' := List.nodup_cons.1 hl
      have e : ords ((p :: l).map fun p => leT C P p C.length) = (leT C P p C.length).1 ++ ords (l.map fun p => leT C P p C.length) := by simp [ords]
      rw [e]
      refine List.nodup_append.2 ⟨hone p (hp p (List.mem_cons_self)), ih hl'.2 (fun q hq => hp q (List.mem_cons_of_mem _ hq)), fun a ha b hb e2 => ?_⟩
      subst e2
      unfold ords at hb
      obtain ⟨o, ho, hao⟩ := List.mem_flatten.1 hb
      obtain ⟨t, ht, rfl⟩ := List.mem_map.1 ho
      obtain ⟨q, hq, rfl⟩ := List.mem_map.1 ht
      have h1 := hin p (hp p (List.mem_cons_self)) a ha
      have h2 := hin q (hp q (List.mem_cons_of_mem _ hq)) a hao
      have : p = q := by omega
      subst this
      exact hl'.1 hq
  have ndA := hndl σ (hσ.symm.nodup List.nodup_range) hlt
  have ndB := (ords_perm hAB).nodup ndA
  have h := can_same hm hA hB hkeys ndA ndB
  have o1 : ords (σ.map fun p => leT C P p C.length) = (σ.map fun p => (leT C P p C.length).1).flatten := by unfold ords; rw [List.map_map]; rfl
  have o2 : ords (τ.map fun i => leT C (wI V) (Hs.getD i 0) C.length) = (τ.map fun i => (leT C (wI V) (Hs.getD i 0) C.length).1).flatten := by unfold ords; rw [List.map_map]; rfl
  rw [o1, o2] at h
  exact h.symm
end Go.Proofs.YtlimfajjmhfnaaaGreatDoor
