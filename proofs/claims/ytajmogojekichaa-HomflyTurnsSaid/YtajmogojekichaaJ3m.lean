/- Plain mathematics: which labels are left, and their numbers, place by place. -/
import Derived.Test.YtajmogojekichaaJ0
import Derived.Test.YtajmogojekichaaOm
namespace Go.Proofs.Ytajmogojekichaa

/-- Does one of the first m arcs that are one with v lead to a crossing that is left? -/
def stB (C : List Cr) (G : List Nat) (L : List Nat) (m v : Nat) : Bool := (List.range m).any fun a => decide (L.getD a 0 = v) && !goneB C G a
theorem stB_iff {C : List Cr} {G L : List Nat} {m v : Nat} : stB C G L m v = true ↔ stP C G L m v := by
  unfold stB stP
  rw [List.any_eq_true]
  constructor
  · rintro ⟨a, ha, h⟩
    rw [Bool.and_eq_true, decide_eq_true_eq] at h
    exact ⟨a, List.mem_range.1 ha, h.1, by simpa using h.2⟩
  · rintro ⟨a, ha, h1, h2⟩
    exact ⟨a, List.mem_range.2 ha, by rw [h2, decide_eq_true h1]; rfl⟩
theorem stB_next (C : List Cr) (G L : List Nat) (m v : Nat) : stB C G L (m + 1) v = (stB C G L m v || (decide (L.getD m 0 = v) && !goneB C G m)) := by
  unfold stB
  rw [List.range_succ, List.any_append]
  simp
def stTo (C : List Cr) (G L : List Nat) (N m : Nat) : List Bool := (List.range N).map (stB C G L m)
theorem stTo_len (C : List Cr) (G L : List Nat) (N m : Nat) : (stTo C G L N m).length = N := by simp [stTo]
theorem stTo_at (C : List Cr) (G L : List Nat) (N m v : Nat) (hv : v < N) : (stTo C G L N m).getD v true = stB C G L m v := by simp [stTo, List.getD_eq_getElem?_getD, hv]
theorem stTo_zero (C : List Cr) (G L : List Nat) (N : Nat) : List.replicate N false = stTo C G L N 0 := by
  refine List.ext_getElem (by simp [stTo]) fun j h1 h2 => ?_
  simp [stTo, stB]
theorem stTo_next (C : List Cr) (G L : List Nat) (N m q : Nat) (hq : L.getD m 0 = q) (b : Bool) (hb : b = (stB C G L m q || !goneB C G m)) : (stTo C G L N m).set q b = stTo C G L N (m + 1) := by
  refine List.ext_getElem (by simp [stTo]) fun j h1 h2 => ?_
  simp only [List.getElem_set, stTo, List.getElem_map, List.getElem_range]
  rw [stB_next, hq]
  by_cases e : q = j
  · subst e; rw [if_pos rfl, hb]; simp
  · rw [if_neg e]; simp [e]
/-- Least ones that are left; least ones that are not. -/
def ltB (L : List Nat) (t : Nat → Bool) (v : Nat) : Bool := decide (L.getD v 0 = v) && t v
def lfB (L : List Nat) (t : Nat → Bool) (v : Nat) : Bool := decide (L.getD v 0 = v) && !t v
/-- The numbers of the first arcs. -/
def nmTo (L : List Nat) (P : Nat → Bool) (N j : Nat) : List Nat := (List.range N).map fun v => if v < j ∧ 1 ≤ v then numM L P v else 0
theorem nmTo_len (L : List Nat) (P : Nat → Bool) (N j : Nat) : (nmTo L P N j).length = N := by simp [nmTo]
theorem nmTo_at (L : List Nat) (P : Nat → Bool) (N j v : Nat) (hv : v < N) : (nmTo L P N j).getD v 0 = if v < j ∧ 1 ≤ v then numM L P v else 0 := by simp [nmTo, List.getD_eq_getElem?_getD, hv]
theorem nmTo_zero (L : List Nat) (P : Nat → Bool) (N : Nat) : List.replicate N 0 = nmTo L P N 1 := by
  refine List.ext_getElem (by simp [nmTo]) fun j h1 h2 => ?_
  simp only [nmTo, List.getElem_map, List.getElem_range, List.getElem_replicate]
  rw [if_neg (by omega)]
theorem nmTo_next (L : List Nat) (P : Nat → Bool) (N j z : Nat) (h1 : 1 ≤ j) (hz : numM L P j = z) : (nmTo L P N j).set j z = nmTo L P N (j + 1) := by
  refine List.ext_getElem (by simp [nmTo]) fun i h2 h3 => ?_
  simp only [List.getElem_set, nmTo, List.getElem_map, List.getElem_range]
  by_cases e : j = i
  · subst e; rw [if_pos rfl, if_pos ⟨by omega, h1⟩, hz]
  · rw [if_neg e]
    by_cases h4 : i < j ∧ 1 ≤ i
    · rw [if_pos h4, if_pos ⟨by omega, h4.2⟩]
    · rw [if_neg h4, if_neg (fun q => h4 ⟨by omega, q.2⟩)]
theorem nmTo_same (L : List Nat) (P : Nat → Bool) (N j : Nat) (hz : numM L P j = 0) : nmTo L P N j = nmTo L P N (j + 1) := by
  refine List.map_congr_left fun i _ => ?_
  by_cases h4 : i < j ∧ 1 ≤ i
  · rw [if_pos h4, if_pos ⟨by omega, h4.2⟩]
  · rw [if_neg h4]
    by_cases h5 : i < j + 1 ∧ 1 ≤ i
    · have e : i = j := by omega
      rw [if_pos h5, e, hz]
    · rw [if_neg h5]
theorem cntB_yes (P : Nat → Bool) (j : Nat) (h1 : 1 ≤ j) (h : P j = true) : cntB P (j + 1) = cntB P j + 1 := by simp only [cntB]; rw [if_pos ⟨h1, h⟩]
theorem cntB_no (P : Nat → Bool) (j : Nat) (h : P j = false) : cntB P (j + 1) = cntB P j := by simp only [cntB]; rw [if_neg (fun z => by rw [h] at z; cases z.2)]; rfl
theorem cntB_one (P : Nat → Bool) : cntB P 1 = 0 := by simp [cntB]
theorem reTo_next (C : List Cr) (G : List Nat) (h : Nat → Nat) (i : Nat) : reTo C G h (i + 1) = if i ∈ G then reTo C G h i else reTo C G h i ++ [reX h (C.getD i Cr.none)] := by
  simp only [reTo]
  split <;> simp
end Go.Proofs.Ytajmogojekichaa
