/- Several texts of the proof, one behind the other. -/
import Derived.Test.YtbikalghmlihlaaZ2P
import Derived.Test.YtbikalghmlihlaaB3P
import Derived.Test.YtbikalghmlihlaaB6
import Derived.Test.YtbikalghmlihlaaI1
/- Plain mathematics: what Build makes of a diagram's walk is the diagram but for the numbers of arcs. -/
namespace Go.Proofs.Ytbikalghmlihlaa
open Go.RowKit

theorem wrap_small {z : Int} (h : -1000 ≤ z ∧ z ≤ 1000) : wrap64 z = z := by unfold wrap64; omega
/-- A row of visits, its crossings as numbers of the program. -/
def viL (V : List (Nat × Bool)) : Vi := V.map fun t => ((t.1 : Int), t.2)
/-- The number that Build gives to an arc. -/
def bnum (C : List Cr) (a : Nat) : Nat := ps (walksM C).flatten a + 1
theorem flat_oneZ {C : List Cr} (a : Nat) (h1 : 1 ≤ a) (h2 : a ≤ 2 * C.length) : (walksM C).flatten.count a = 1 := walks_once (nx C) (2 * C.length) a h1 h2
theorem flat_mem {C : List Cr} {loops : Int} (hm : mayD C loops = true) (a : Nat) (h : a ∈ (walksM C).flatten) : 1 ≤ a ∧ a ≤ 2 * C.length := by
  obtain ⟨l, hl, ha⟩ := List.mem_flatten.1 h
  exact (walksTo_mem (nx_closed hm) (2 * C.length) (Nat.le_refl _) l hl).2.2 a ha
theorem flat_count {C : List Cr} {loops : Int} (hm : mayD C loops = true) (y : Nat) : (walksM C).flatten.count y ≤ 1 := by
  by_cases h : y ∈ (walksM C).flatten
  · have := flat_mem hm y h
    rw [flat_oneZ y this.1 this.2]; exact Nat.le_refl _
  · rw [List.count_eq_zero_of_not_mem h]; exact Nat.zero_le _
theorem ps_at {l : List Nat} (hc : ∀ y, l.count y ≤ 1) {p : Nat} (hp : p < l.length) : ps l (l.getD p 0) = p := by
  have hl : ps l (l.getD p 0) < l.length := List.findIdx_lt_length_of_exists ⟨l.getD p 0, at_mem hp, by simp⟩
  have h := List.findIdx_getElem (p := fun x => decide (x = l.getD p 0)) (xs := l) (w := hl)
  have e : l.getD (ps l (l.getD p 0)) 0 = l.getD p 0 := by
    rw [List.getD_eq_getElem?_getD (l := l) (i := ps l (l.getD p 0)), List.getElem?_eq_getElem hl]
    exact of_decide_eq_true h
  rcases Nat.lt_trichotomy (ps l (l.getD p 0)) p with hlt | he | hlt
  · exact absurd e (at_ne hc hlt hp)
  · exact he
  · exact absurd e.symm (at_ne hc hlt hl)
def offW (C : List Cr) (j : Nat) : Nat := ((walksM C).take j).flatten.length
theorem offW_next (C : List Cr) (j : Nat) (hj : j < (walksM C).length) : offW C (j + 1) = offW C j + ((walksM C).getD j []).length := by
  unfold offW
  rw [List.take_succ_eq_append_getElem hj, List.flatten_append, List.length_append, List.getD_eq_getElem?_getD, List.getElem?_eq_getElem hj]
  simp
theorem flat_atZ (C : List Cr) (j k : Nat) (hj : j < (walksM C).length) (hk : k < ((walksM C).getD j []).length) : offW C j + k < (walksM C).flatten.length ∧ (walksM C).flatten.getD (offW C j + k) 0 = ((walksM C).getD j []).getD k 0 := by
  have e : (walksM C).flatten = ((walksM C).take j).flatten ++ ((walksM C).getD j [] ++ ((walksM C).drop (j + 1)).flatten) := by
    have h1 : (walksM C).flatten = ((walksM C).take j).flatten ++ ((walksM C).drop j).flatten := by rw [← List.flatten_append, List.take_append_drop]
    rw [h1, List.drop_eq_getElem_cons hj, List.flatten_cons, List.getD_eq_getElem?_getD, List.getElem?_eq_getElem hj]
    rfl
  constructor
  · rw [e, List.length_append, List.length_append]
    show _ < offW C j + _
    omega
  · rw [e]
    unfold offW
    rw [List.getD_eq_getElem?_getD, List.getElem?_append_right (by omega), Nat.add_sub_cancel_left, List.getElem?_append_left hk, ← List.getD_eq_getElem?_getD]
theorem bnum_at {C : List Cr} {loops : Int} (hm : mayD C loops = true) (j k : Nat) (hj : j < (walksM C).length) (hk : k < ((walksM C).getD j []).length) : bnum C (((walksM C).getD j []).getD k 0) = offW C j + k + 1 := by
  have h := flat_atZ C j k hj hk
  unfold bnum
  rw [← h.2, ps_at (flat_count hm) h.1]
theorem walk_next {C : List Cr} {loops : Int} (hm : mayD C loops = true) (j k : Nat) (hj : j < (walksM C).length) (hk : k < ((walksM C).getD j []).length) : nx C (((walksM C).getD j []).getD k 0) = ((walksM C).getD j []).getD (if k + 1 = ((walksM C).getD j []).length then 0 else k + 1) 0 := by
  have hc := (rings_closed (nx_closed hm) (fun a b p q r s t => nx_inj hm a b p q r s t) (2 * C.length) (Nat.le_refl _)).2.2
  have hin : (walksM C).getD j [] ∈ walksM C := by
    rw [List.getD_eq_getElem?_getD, List.getElem?_eq_getElem hj]
    exact List.getElem_mem hj
  have h := hc _ hin
  by_cases e : k + 1 = ((walksM C).getD j []).length
  · rw [if_pos e, ← h.2, show k = ((walksM C).getD j []).length - 1 by omega]
  · rw [if_neg e, h.1 k (by omega)]
/-- Crossings under way: those visits are laid whose arcs are in Q. -/
structure BInv (C Cs : List Cr) (Q : List Nat) : Prop where
  len : Cs.length = C.length
  plus : ∀ c, c < C.length → (Cs.getD c Cr.none).plus = (C.getD c Cr.none).plus
  under : ∀ c, c < C.length → aAt C c 0 ∈ Q → (Cs.getD c Cr.none).a = (bnum C (aAt C c 0) : Int) ∧ (Cs.getD c Cr.none).c = (bnum C (aAt C c 2) : Int)
  over : ∀ c, c < C.length → aAt C c (oS (C.getD c Cr.none) 0) ∈ Q → (Cs.getD c Cr.none).b = (bnum C (aAt C c 1) : Int) ∧ (Cs.getD c Cr.none).d = (bnum C (aAt C c 3) : Int)
theorem getD_set_cr (Cs : List Cr) (i c : Nat) (x : Cr) (hi : i < Cs.length) : (Cs.set i x).getD c Cr.none = if c = i then x else Cs.getD c Cr.none := by
  rw [List.getD_eq_getElem?_getD, List.getElem?_set]
  by_cases e : i = c
  · subst e; simp [hi]
  · rw [if_neg e, if_neg (fun q => e q.symm), List.getD_eq_getElem?_getD]
theorem BInv.step {C Cs : List Cr} {loops : Int} (hm : mayD C loops = true) {Q : List Nat} (h : BInv C Cs Q) {x : Nat} (h1 : 1 ≤ x) (h2 : x ≤ 2 * C.length) : BInv C (Cs.set (toC C x) (passC (Cs.getD (toC C x) Cr.none) (!decide (toS C x = 0)) (bnum C x : Int) (bnum C (nx C x) : Int))) (Q ++ [x]) := by
  obtain ⟨-, p2, p3, p4, p5⟩ := to_may hm x h1 h2
  have ex : aAt C (toC C x) (toS C x) = x := by unfold aAt; rw [p4]; omega
  have en : aAt C (toC C x) ((toS C x + 2) % 4) = nx C x := rfl
  have hpl := h.plus _ p2
  have hset : ∀ c, (Cs.set (toC C x) (passC (Cs.getD (toC C x) Cr.none) (!decide (toS C x = 0)) (bnum C x : Int) (bnum C (nx C x) : Int))).getD c Cr.none = if c = toC C x then passC (Cs.getD (toC C x) Cr.none) (!decide (toS C x = 0)) (bnum C x : Int) (bnum C (nx C x) : Int) else Cs.getD c Cr.none := fun c => getD_set_cr _ _ _ _ (by rw [h.len]; exact p2)
  have c0 : ∀ c, (C.getD c Cr.none).comes 0 = true := fun _ => rfl
  refine ⟨by rw [List.length_set]; exact h.len, fun c hc => ?_, fun c hc hq => ?_, fun c hc hq => ?_⟩
  · rw [hset]
    split
    · rename_i e; rw [passC_plus, e]; exact hpl
    · exact h.plus c hc
  · rw [hset]
    by_cases e : c = toC C x
    · rw [if_pos e]
      subst e
      by_cases es : toS C x = 0
      · rw [es] at ex en
        unfold passC
        rw [if_pos (by simp [es])]
        simp only
        rw [ex, ← en]
        exact ⟨rfl, rfl⟩
      · have hq2 : aAt C (toC C x) 0 ∈ Q := by
          rcases List.mem_append.1 hq with hh | hh
          · exact hh
          · exfalso
            have := List.mem_singleton.1 hh
            have t := to_sideZ hm (toC C x) 0 p2 (by omega) (c0 _)
            rw [this] at t
            exact es t.2.1
        have hu := h.under _ hc hq2
        unfold passC
        rw [if_neg (by simp [es])]
        split <;> exact hu
    · rw [if_neg e]
      refine h.under c hc ?_
      rcases List.mem_append.1 hq with hh | hh
      · exact hh
      · exfalso
        have := List.mem_singleton.1 hh
        have t := to_sideZ hm c 0 hc (by omega) (c0 _)
        rw [this] at t
        exact e t.1.symm
  · obtain ⟨o1, o2, -, -⟩ := oS_in (C.getD c Cr.none) 0 (by omega) (c0 c)
    have t := to_sideZ hm c _ hc o1 o2
    rw [hset]
    by_cases e : c = toC C x
    · rw [if_pos e]
      subst e
      by_cases es : toS C x = 0
      · have hq2 : aAt C (toC C x) (oS (C.getD (toC C x) Cr.none) 0) ∈ Q := by
          rcases List.mem_append.1 hq with hh | hh
          · exact hh
          · exfalso
            have := List.mem_singleton.1 hh
            rw [this, es] at t
            have : oS (C.getD (toC C x) Cr.none) 0 ≠ 0 := by unfold oS; rw [if_pos rfl]; split <;> omega
            exact this t.2.1.symm
        have hu := h.over _ hc hq2
        unfold passC
        rw [if_pos (by simp [es])]
        exact hu
      · have hs := oS_only (C.getD (toC C x) Cr.none) 0 (toS C x) (by omega) p3 (c0 _) p5 (fun q => es q.symm)
        unfold passC
        rw [if_neg (by simp [es]), hpl]
        unfold oS at hs
        rw [if_pos rfl] at hs
        by_cases hpp : (C.getD (toC C x) Cr.none).plus = true
        · rw [if_pos hpp] at hs ⊢
          rw [hs] at ex en
          simp only
          simp only [Nat.reduceAdd, Nat.reduceMod] at en
          rw [ex, en]
          exact ⟨rfl, rfl⟩
        · rw [if_neg hpp] at hs ⊢
          rw [hs] at ex en
          simp only
          simp only [Nat.reduceAdd, Nat.reduceMod] at en
          rw [ex, en]
          exact ⟨rfl, rfl⟩
    · rw [if_neg e]
      refine h.over c hc ?_
      rcases List.mem_append.1 hq with hh | hh
      · exact hh
      · exfalso
        have := List.mem_singleton.1 hh
        rw [this] at t
        exact e t.1.symm
theorem flat_len {C : List Cr} {loops : Int} (hm : mayD C loops = true) : (walksM C).flatten.length = 2 * C.length := by
  have hp : (walksM C).flatten.Perm ((List.range (2 * C.length)).map (· + 1)) := by
    refine List.perm_iff_count.2 fun x => ?_
    by_cases hx : 1 ≤ x ∧ x ≤ 2 * C.length
    · have hn2 : ((List.range (2 * C.length)).map (· + 1)).Nodup := by
        unfold List.Nodup
        rw [List.pairwise_map]
        exact List.nodup_range.imp (fun hne e => hne (by omega))
      rw [flat_oneZ x hx.1 hx.2, List.Nodup.count hn2, if_pos (List.mem_map.2 ⟨x - 1, List.mem_range.2 (by omega), by omega⟩)]
    · rw [List.count_eq_zero_of_not_mem (fun e => hx (flat_mem hm x e)), List.count_eq_zero_of_not_mem (fun e => by
        obtain ⟨y, hy, rfl⟩ := List.mem_map.1 e
        have := List.mem_range.1 hy
        exact hx ⟨by omega, by omega⟩)]
  have := hp.length_eq
  simpa using this
theorem may_16 {C : List Cr} {loops : Int} (hm : mayD C loops = true) : C.length ≤ 16 := by
  have : sizeB C loops = true := by
    unfold mayD at hm
    exact (Bool.and_eq_true_iff.1 hm).1
  exact (sizeB_iff this).1
theorem viL_len (C : List Cr) (l : List Nat) : (viL (visL C l)).length = l.length := by simp [viL, visL]
theorem viL_at (C : List Cr) (l : List Nat) (k : Nat) (hk : k < l.length) : (viL (visL C l)).getD k (0, false) = ((toC C (l.getD k 0) : Int), !decide (toS C (l.getD k 0) = 0)) := by
  simp [viL, visL, vis, List.getD_eq_getElem?_getD, hk]
theorem take_getZ (l : List Nat) (k : Nat) (h : k < l.length) : l.take (k + 1) = l.take k ++ [l.getD k 0] := by
  rw [List.take_succ_eq_append_getElem h, List.getD_eq_getElem?_getD, List.getElem?_eq_getElem h]
  rfl
theorem bRow_inv {C Cs : List Cr} {loops : Int} (hm : mayD C loops = true) {j : Nat} (hj : j < (walksM C).length) (h : BInv C Cs ((walksM C).take j).flatten) : ∀ k, k ≤ ((walksM C).getD j []).length → BInv C (bRow ((offW C j + 1 : Nat) : Int) (viL (visL C ((walksM C).getD j []))) Cs k) (((walksM C).take j).flatten ++ ((walksM C).getD j []).take k) := by
  intro k
  induction k with
  | zero => intro _; simpa [bRow] using h
  | succ k ih =>
    intro hk
    have i1 := ih (by omega)
    have hb := flat_atZ C j k hj (by omega)
    have hn := flat_len hm
    have h16 := may_16 hm
    have hx := flat_mem hm (((walksM C).getD j []).getD k 0) (by rw [← hb.2]; exact at_mem hb.1)
    have hs := i1.step hm hx.1 hx.2
    have e1 : (((walksM C).getD j []).take (k + 1)) = ((walksM C).getD j []).take k ++ [((walksM C).getD j []).getD k 0] := take_getZ _ k (by omega)
    rw [e1, ← List.append_assoc]
    simp only [bRow]
    rw [viL_at C _ k (by omega)]
    have f1 : wrap64 (((offW C j + 1 : Nat) : Int) + (k : Int)) = (bnum C (((walksM C).getD j []).getD k 0) : Int) := by
      rw [wrap_small (by omega), bnum_at hm j k hj (by omega)]
      omega
    have f2 : wrap64 (((offW C j + 1 : Nat) : Int) + if k + 1 = (viL (visL C ((walksM C).getD j []))).length then 0 else ((k + 1 : Nat) : Int)) = (bnum C (nx C (((walksM C).getD j []).getD k 0)) : Int) := by
      rw [viL_len, walk_next hm j k hj (by omega)]
      by_cases e : k + 1 = ((walksM C).getD j []).length
      · rw [if_pos e, if_pos e, bnum_at hm j 0 hj (by omega), wrap_small (by omega)]
        omega
      · rw [if_neg e, if_neg e, bnum_at hm j (k + 1) hj (by omega), wrap_small (by omega)]
        omega
    rw [f1, f2]
    simp only [Int.toNat_natCast]
    exact hs
theorem bAll_inv {C : List Cr} {loops : Int} (hm : mayD C loops = true) : ∀ j, j ≤ (walksM C).length → (bAll (plusM C) ((visM C).map viL) j).2 = ((offW C j + 1 : Nat) : Int) ∧ BInv C (bAll (plusM C) ((visM C).map viL) j).1 ((walksM C).take j).flatten := by
  intro j
  induction j with
  | zero =>
    intro _
    refine ⟨by simp [bAll, offW], ⟨by simp [bAll, signC, plusM], fun c hc => ?_, fun c hc hq => by simp at hq, fun c hc hq => by simp at hq⟩⟩
    simp [bAll, signC, plusM, List.getD_eq_getElem?_getD, hc]
  | succ j ih =>
    intro hj
    obtain ⟨i1, i2⟩ := ih (by omega)
    have e : ((visM C).map viL).getD j [] = viL (visL C ((walksM C).getD j [])) := by
      simp [visM, List.getD_eq_getElem?_getD, show j < (walksM C).length by omega]
    have hn := flat_len hm
    have h16 := may_16 hm
    have hle : offW C (j + 1) ≤ (walksM C).flatten.length := by
      unfold offW
      have : (walksM C).flatten = ((walksM C).take (j + 1)).flatten ++ ((walksM C).drop (j + 1)).flatten := by rw [← List.flatten_append, List.take_append_drop]
      rw [this, List.length_append]
      omega
    have ho := offW_next C j (by omega)
    refine ⟨?_, ?_⟩
    · show wrap64 ((bAll (plusM C) ((visM C).map viL) j).2 + ((((visM C).map viL).getD j []).length : Int)) = _
      rw [e, i1, viL_len, wrap_small (by omega)]
      omega
    · have hb := bRow_inv hm (by omega) i2 ((walksM C).getD j []).length (Nat.le_refl _)
      rw [List.take_length] at hb
      have e2 : ((walksM C).take (j + 1)).flatten = ((walksM C).take j).flatten ++ (walksM C).getD j [] := by
        rw [List.take_succ_eq_append_getElem (show j < (walksM C).length by omega), List.flatten_append, List.getD_eq_getElem?_getD, List.getElem?_eq_getElem (show j < (walksM C).length by omega)]
        simp
      rw [e2]
      show BInv C (bRow (bAll (plusM C) ((visM C).map viL) j).2 (((visM C).map viL).getD j []) (bAll (plusM C) ((visM C).map viL) j).1 (((visM C).map viL).getD j []).length) _
      rw [e, i1, viL_len]
      exact hb
/-- What Build makes of the walk. -/
theorem built_same {C : List Cr} {loops : Int} (hm : mayD C loops = true) : (bAll (plusM C) ((visM C).map viL) (walksM C).length).1.length = C.length ∧ ∀ k, k < C.length → ((bAll (plusM C) ((visM C).map viL) (walksM C).length).1.getD k Cr.none).plus = (C.getD k Cr.none).plus ∧ ∀ s, s < 4 → ((bAll (plusM C) ((visM C).map viL) (walksM C).length).1.getD k Cr.none).arc s = (bnum C (aAt C k s) : Int) := by
  have h := (bAll_inv hm _ (Nat.le_refl _)).2
  rw [List.take_length] at h
  refine ⟨h.len, fun k hk => ⟨h.plus k hk, fun s hs => ?_⟩⟩
  have hin : ∀ a, 1 ≤ a → a ≤ 2 * C.length → a ∈ (walksM C).flatten := fun a h1 h2 => List.one_le_count_iff.1 (by rw [flat_oneZ a h1 h2]; exact Nat.le_refl _)
  have t0 := to_sideZ hm k 0 hk (by omega) rfl
  obtain ⟨o1, o2, -, -⟩ := oS_in (C.getD k Cr.none) 0 (by omega) rfl
  have t1 := to_sideZ hm k _ hk o1 o2
  have u := h.under k hk (hin _ t0.2.2.1 t0.2.2.2.1)
  have v := h.over k hk (hin _ t1.2.2.1 t1.2.2.2.1)
  have : s = 0 ∨ s = 1 ∨ s = 2 ∨ s = 3 := by omega
  rcases this with rfl | rfl | rfl | rfl
  · exact u.1
  · exact v.1
  · exact u.2
  · exact v.2
theorem bnum_inj {C : List Cr} (x y : Nat) (hx : 1 ≤ x ∧ x ≤ 2 * C.length) (hy : 1 ≤ y ∧ y ≤ 2 * C.length) (e : bnum C x = bnum C y) : x = y := by
  have key : ∀ a, 1 ≤ a → a ≤ 2 * C.length → (walksM C).flatten.getD (ps (walksM C).flatten a) 0 = a := fun a h1 h2 => by
    have hmem : a ∈ (walksM C).flatten := List.one_le_count_iff.1 (by rw [flat_oneZ a h1 h2]; exact Nat.le_refl _)
    have hl : ps (walksM C).flatten a < (walksM C).flatten.length := List.findIdx_lt_length_of_exists ⟨a, hmem, by simp⟩
    have := List.findIdx_getElem (p := fun x => decide (x = a)) (xs := (walksM C).flatten) (w := hl)
    rw [List.getD_eq_getElem?_getD, List.getElem?_eq_getElem hl]
    exact of_decide_eq_true this
  have e2 : ps (walksM C).flatten x = ps (walksM C).flatten y := by unfold bnum at e; omega
  rw [← key x hx.1 hx.2, ← key y hy.1 hy.2, e2]
end Go.Proofs.Ytbikalghmlihlaa
/- Plain mathematics: Build refuses no walk of a diagram; what it makes is the diagram but for the numbers of arcs (Iso). -/
namespace Go.Proofs.Ytbikalghmlihlaa
open Go.RowKit

def viA (C : List Cr) (a : Nat) : Int × Bool := ((toC C a : Int), !decide (toS C a = 0))
theorem vis_flat (C : List Cr) : ((visM C).map viL).flatten = (walksM C).flatten.map (viA C) := by
  unfold visM
  rw [List.map_map]
  induction walksM C with
  | nil => rfl
  | cons l L ih =>
    rw [List.map_cons, List.flatten_cons, List.flatten_cons, List.map_append, ih]
    congr 1
    simp [viL, visL, vis, viA]
theorem cnt_one (C : List Cr) (c : Nat) (o : Bool) (a0 : Nat) (l : List Nat) (hc : ∀ y, l.count y ≤ 1) (hq : ∀ a, a ∈ l → ((viA C a).1 = (c : Int) ∧ (viA C a).2 = o ↔ a = a0)) : ∀ k, k ≤ l.length → cntV ((l.take k).map (viA C)) c o = if a0 ∈ l.take k then 1 else 0 := by
  intro k
  induction k with
  | zero => intro _; simp [cntV]
  | succ k ih =>
    intro hk
    have i1 := ih (by omega)
    rw [take_getZ l k (by omega), List.map_append, List.map_singleton, cntV_snoc, i1]
    have hm : l.getD k 0 ∈ l := at_mem (by omega)
    by_cases e : l.getD k 0 = a0
    · have hn : ¬ a0 ∈ l.take k := fun q => by
        obtain ⟨i, hi, ei⟩ := mem_atZ q
        have hi2 : i < k := by rw [List.length_take] at hi; omega
        have e3 : (l.take k).getD i 0 = l.getD i 0 := by
          rw [List.getD_eq_getElem?_getD, List.getElem?_take_of_lt hi2, ← List.getD_eq_getElem?_getD]
        rw [e3, ← e] at ei
        exact at_ne hc hi2 (by omega) ei
      rw [if_pos ((hq _ hm).2 e), if_neg hn, if_pos (by rw [e]; simp)]
      unfold inc wrap64
      omega
    · rw [if_neg (fun q => e ((hq _ hm).1 q))]
      by_cases h2 : a0 ∈ l.take k
      · rw [if_pos h2, if_pos (List.mem_append_left _ h2)]
      · rw [if_neg h2, if_neg (fun q => by
          rcases List.mem_append.1 q with q | q
          · exact h2 q
          · exact e (List.mem_singleton.1 q).symm)]
theorem once_at {C : List Cr} {loops : Int} (hm : mayD C loops = true) (c : Nat) (hc : c < C.length) (o : Bool) (s : Nat) (hs : s < 4) (hcm : (C.getD c Cr.none).comes s = true) (ho : o = !decide (s = 0)) : cntV ((walksM C).flatten.map (viA C)) c o = 1 := by
  obtain ⟨t1, t2, t3, t4, -⟩ := to_sideZ hm c s hc hs hcm
  have h := cnt_one C c o (aAt C c s) (walksM C).flatten (flat_count hm) (fun a ha => by
    have hr := flat_mem hm a ha
    obtain ⟨-, p2, p3, p4, p5⟩ := to_may hm a hr.1 hr.2
    unfold viA
    simp only
    constructor
    · rintro ⟨e1, e2⟩
      have e3 : toC C a = c := by omega
      have e4 : toS C a = s := by
        refine Classical.byContradiction fun hne => ?_
        rw [e3] at p5
        rw [ho] at e2
        have h0 : (toS C a = 0 ↔ s = 0) := by
          by_cases q1 : toS C a = 0 <;> by_cases q2 : s = 0 <;> simp [q1, q2] at e2 ⊢
        by_cases q : s = 0
        · exact hne (by rw [q]; exact h0.2 q)
        · have w1 := oS_only (C.getD c Cr.none) 0 s (by omega) hs rfl hcm (fun z => q z.symm)
          have w2 := oS_only (C.getD c Cr.none) 0 (toS C a) (by omega) p3 rfl p5 (fun z => q (h0.1 z.symm))
          exact hne (by rw [w2, ← w1])
      unfold aAt
      rw [← e3, ← e4, p4]
      omega
    · rintro rfl
      rw [t1, t2, ho]
      exact ⟨rfl, rfl⟩) _ (Nat.le_refl _)
  rw [List.take_length, if_pos (List.one_le_count_iff.1 (by rw [flat_oneZ _ t3 t4]; exact Nat.le_refl _))] at h
  exact h
theorem ref_walk {C : List Cr} {loops : Int} (hm : mayD C loops = true) : refN (plusM C).length ((visM C).map viL) loops = 0 := by
  have hsz : sizeB C loops = true := by
    have := hm
    unfold mayD at this
    exact (Bool.and_eq_true_iff.1 this).1
  obtain ⟨s1, s2, s3, s4⟩ := sizeB_iff hsz
  have hl : (plusM C).length = C.length := by simp [plusM]
  unfold refN
  rw [hl]
  have a1 : sizeV C.length loops = true := by simp [sizeV, s1, s2, s3]
  have a2 : okL C.length ((visM C).map viL) = true := by
    unfold okL
    rw [vis_flat, List.all_eq_true]
    intro v hv
    obtain ⟨a, ha, rfl⟩ := List.mem_map.1 hv
    have hr := flat_mem hm a ha
    obtain ⟨-, p2, -, -, -⟩ := to_may hm a hr.1 hr.2
    simp [okV, viA, p2]
  have a3 : onceV C.length ((visM C).map viL).flatten = true := by
    rw [vis_flat]
    refine onceV_yes fun c hc => ⟨once_at hm c hc false 0 (by omega) rfl rfl, ?_⟩
    obtain ⟨o1, o2, -, -⟩ := oS_in (C.getD c Cr.none) 0 (by omega) rfl
    refine once_at hm c hc true _ o1 o2 ?_
    have : oS (C.getD c Cr.none) 0 ≠ 0 := by unfold oS; rw [if_pos rfl]; split <;> omega
    rw [decide_eq_false this]
    rfl
  have a4 : fullV ((visM C).map viL) = true := by
    unfold fullV
    rw [List.all_eq_true]
    intro V hV
    obtain ⟨W, hW, rfl⟩ := List.mem_map.1 hV
    obtain ⟨l, hl2, rfl⟩ := List.mem_map.1 hW
    have := (walksTo_mem (nx_closed hm) (2 * C.length) (Nat.le_refl _) l hl2).1
    have h0 : 0 < l.length := by
      cases l with
      | nil => exact absurd rfl this
      | cons => simp
    rw [viL_len]
    simpa using h0
  rw [if_neg (by rw [a1]; decide), if_neg (by rw [a2]; decide), if_neg (by rw [a3]; decide), if_neg (by rw [a4]; decide), if_neg (by omega)]
theorem out_walk {C : List Cr} {loops : Int} (hm : mayD C loops = true) : outC (plusM C) ((visM C).map viL) loops = (bAll (plusM C) ((visM C).map viL) (walksM C).length).1 ∧ outL (plusM C) ((visM C).map viL) loops = loops := by
  have h := ref_walk hm
  unfold outC outL
  rw [if_pos h, if_pos h]
  have : ((visM C).map viL).length = (walksM C).length := by simp [visM]
  rw [this]
  exact ⟨rfl, rfl⟩
/-- What Build makes of a diagram's walk is the diagram but for the numbers of arcs. -/
theorem build_iso {C : List Cr} {loops : Int} (hm : mayD C loops = true) : Iso C (outC (plusM C) ((visM C).map viL) loops) id id (bnum C) := by
  rw [(out_walk hm).1]
  have h := built_same hm
  refine ⟨h.1, fun k hk => hk, fun k hk => hk, fun _ _ => rfl, fun _ _ => rfl, fun k hk => (h.2 k hk).1, fun k s hk hs => ?_, fun x y hx hy e => bnum_inj x y hx hy e⟩
  show (((bAll (plusM C) ((visM C).map viL) (walksM C).length).1.getD k Cr.none).arc s).toNat = _
  rw [(h.2 k hk).2 s hs]
  rfl
end Go.Proofs.Ytbikalghmlihlaa
