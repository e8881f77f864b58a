/- Plain mathematics: what the reference's smoothing leaves is what the code's leaves. -/
import Derived.Test.YtajmogojekichaaJ3m
namespace Go.Proofs.Ytajmogojekichaa

/-- Has a crossing among the first i (k left out), or of crossing i a side below s, an arc that is one with v? -/
def rowB (C : List Cr) (L : List Nat) (i s v : Nat) : Bool := (List.range s).any fun t => decide (L.getD ((C.getD i Cr.none).arc t).toNat 0 = v)
def thB (C : List Cr) (k : Nat) (L : List Nat) (i s v : Nat) : Bool := ((List.range i).any fun j => decide (j ≠ k) && rowB C L j 4 v) || (decide (i ≠ k) && rowB C L i s v)
theorem rowB_next (C : List Cr) (L : List Nat) (i s v : Nat) : rowB C L i (s + 1) v = (rowB C L i s v || decide (L.getD ((C.getD i Cr.none).arc s).toNat 0 = v)) := by
  unfold rowB
  rw [List.range_succ, List.any_append]
  simp
theorem thB_row (C : List Cr) (k : Nat) (L : List Nat) (i v : Nat) : thB C k L i 4 v = thB C k L (i + 1) 0 v := by
  unfold thB
  rw [List.range_succ, List.any_append]
  have e : rowB C L (i + 1) 0 v = false := by simp [rowB]
  rw [e]
  simp
theorem thB_skip (C : List Cr) (k : Nat) (L : List Nat) (v : Nat) : thB C k L k 0 v = thB C k L (k + 1) 0 v := by
  rw [← thB_row]
  unfold thB
  simp
def thTo (C : List Cr) (k : Nat) (L : List Nat) (N i s : Nat) : List Bool := (List.range N).map (thB C k L i s)
theorem thTo_len (C : List Cr) (k : Nat) (L : List Nat) (N i s : Nat) : (thTo C k L N i s).length = N := by simp [thTo]
theorem thTo_at (C : List Cr) (k : Nat) (L : List Nat) (N i s v : Nat) (hv : v < N) : (thTo C k L N i s).getD v true = thB C k L i s v := by simp [thTo, List.getD_eq_getElem?_getD, hv]
theorem thTo_zero (C : List Cr) (k : Nat) (L : List Nat) (N : Nat) : List.replicate N false = thTo C k L N 0 0 := by
  refine List.ext_getElem (by simp [thTo]) fun j h1 h2 => ?_
  simp [thTo, thB, rowB]
theorem thTo_row (C : List Cr) (k : Nat) (L : List Nat) (N i : Nat) : thTo C k L N i 4 = thTo C k L N (i + 1) 0 := List.map_congr_left fun v _ => thB_row C k L i v
theorem thTo_skip (C : List Cr) (k : Nat) (L : List Nat) (N : Nat) : thTo C k L N k 0 = thTo C k L N (k + 1) 0 := List.map_congr_left fun v _ => thB_skip C k L v
theorem thTo_next (C : List Cr) (k : Nat) (L : List Nat) (N i s q : Nat) (hik : i ≠ k) (hq : L.getD ((C.getD i Cr.none).arc s).toNat 0 = q) : (thTo C k L N i s).set q true = thTo C k L N i (s + 1) := by
  refine List.ext_getElem (by simp [thTo]) fun j h1 h2 => ?_
  simp only [List.getElem_set, thTo, List.getElem_map, List.getElem_range]
  unfold thB
  rw [rowB_next, hq]
  by_cases e : q = j
  · subst e; rw [if_pos rfl]; simp [hik]
  · rw [if_neg e]; simp [e]
theorem thB_iff (C : List Cr) (k : Nat) (L : List Nat) (v : Nat) : thB C k L C.length 0 v = true ↔ thP C [k] L v := by
  unfold thB thP
  have e : rowB C L C.length 0 v = false := by simp [rowB]
  rw [e]
  simp only [Bool.and_false, Bool.or_false, List.any_eq_true, List.mem_range, Bool.and_eq_true, decide_eq_true_eq]
  unfold rowB
  simp only [List.any_eq_true, List.mem_range, decide_eq_true_eq]
  constructor
  · rintro ⟨i, hi, hk, s, hs, h⟩
    exact ⟨i, s, hi, by simpa using hk, hs, h⟩
  · rintro ⟨i, s, hi, hk, hs, h⟩
    exact ⟨i, hi, by simpa using hk, s, hs, h⟩
/-- The reference's numbers of the first arcs. -/
def rfTo (P : Nat → Bool) (N j : Nat) : List Nat := (List.range N).map fun v => if v < j ∧ 1 ≤ v ∧ P v = true then cntB P v + 1 else 0
theorem rfTo_len (P : Nat → Bool) (N j : Nat) : (rfTo P N j).length = N := by simp [rfTo]
theorem rfTo_at (P : Nat → Bool) (N j v : Nat) (hv : v < N) : (rfTo P N j).getD v 0 = if v < j ∧ 1 ≤ v ∧ P v = true then cntB P v + 1 else 0 := by simp [rfTo, List.getD_eq_getElem?_getD, hv]
theorem rfTo_zero (P : Nat → Bool) (N : Nat) : List.replicate N 0 = rfTo P N 1 := by
  refine List.ext_getElem (by simp [rfTo]) fun j h1 h2 => ?_
  simp only [rfTo, List.getElem_map, List.getElem_range, List.getElem_replicate]
  rw [if_neg (by omega)]
theorem rfTo_yes (P : Nat → Bool) (N j : Nat) (h1 : 1 ≤ j) (h : P j = true) : (rfTo P N j).set j (cntB P j + 1) = rfTo P N (j + 1) := by
  refine List.ext_getElem (by simp [rfTo]) fun i h2 h3 => ?_
  simp only [List.getElem_set, rfTo, List.getElem_map, List.getElem_range]
  by_cases e : j = i
  · subst e; rw [if_pos rfl, if_pos ⟨by omega, h1, h⟩]
  · rw [if_neg e]
    by_cases h4 : i < j ∧ 1 ≤ i ∧ P i = true
    · rw [if_pos h4, if_pos ⟨by omega, h4.2⟩]
    · rw [if_neg h4, if_neg (fun q => h4 ⟨by omega, q.2⟩)]
theorem rfTo_no (P : Nat → Bool) (N j : Nat) (h : P j = false) : rfTo P N j = rfTo P N (j + 1) := by
  refine List.map_congr_left fun i _ => ?_
  by_cases h4 : i < j ∧ 1 ≤ i ∧ P i = true
  · rw [if_pos h4, if_pos ⟨by omega, h4.2⟩]
  · rw [if_neg h4, if_neg (fun q => h4 ⟨by
      have : i ≠ j := fun e => by rw [e, h] at q; cases q.2.2
      omega, q.2⟩)]
/-- Least ones of which nothing is left, by the reference. -/
def nfB (L : List Nat) (P : Nat → Bool) (v : Nat) : Bool := !P v && decide (L.getD v 0 = v)

/-- Both come to the same. -/
theorem smooth_same {C : List Cr} {loops : Int} (hm : mayD C loops = true) (k : Nat) (L : List Nat) (hL : uniM C (sx C) [k] = L) :
    reTo C [k] (numM L (thB C k L C.length 0)) C.length = reTo C [k] (numM L (ltB L (stB C [k] L (2 * C.length + 1)))) C.length ∧ cntB (nfB L (thB C k L C.length 0)) (2 * C.length + 1) = cntB (lfB L (stB C [k] L (2 * C.length + 1))) (2 * C.length + 1) := by
  have hls := uni_least (G := [k]) (sx_goes hm).closed
  rw [hL] at hls
  have hpos : ∀ v, 1 ≤ v → v < 2 * C.length + 1 → 1 ≤ L.getD v 0 := fun v h1 h2 => hls.pos (fun e he => ⟨(uTo_lt (sx_goes hm).closed e he).1.1, (uTo_lt (sx_goes hm).closed e he).2.1⟩) h2 h1
  have hst : ∀ v, 1 ≤ v → (thB C k L C.length 0 v = true ↔ (L.getD v 0 = v ∧ stB C [k] L (2 * C.length + 1) v = true)) := fun v h1 => by
    rw [thB_iff, stB_iff, ← hL]
    exact st_th hm (sx_goes hm) [k] v h1
  have hP : ∀ v, 1 ≤ v → thB C k L C.length 0 v = ltB L (stB C [k] L (2 * C.length + 1)) v := fun v h1 => by
    rw [Bool.eq_iff_iff, hst v h1]
    unfold ltB
    simp
  have hQ : ∀ v, 1 ≤ v → nfB L (thB C k L C.length 0) v = lfB L (stB C [k] L (2 * C.length + 1)) v := fun v h1 => by
    unfold nfB lfB
    rw [hP v h1]
    unfold ltB
    generalize stB C [k] L (2 * C.length + 1) v = t
    generalize decide (L.getD v 0 = v) = d
    cases d <;> cases t <;> rfl
  have hN : ∀ a, 1 ≤ a → a < 2 * C.length + 1 → numM L (thB C k L C.length 0) a = numM L (ltB L (stB C [k] L (2 * C.length + 1))) a := fun a h1 h2 => by
    have h3 := hpos a h1 h2
    unfold numM
    rw [hP _ h3, cntB_eq (fun u u1 _ => hP u u1)]
  refine ⟨reTo_eq fun j hj _ => ?_, cntB_eq fun u u1 _ => hQ u u1⟩
  have hf := fun s (hs : s < 4) => en_one hm j s hj hs
  have h0 := hf 0 (by omega)
  have h1 := hf 1 (by omega)
  have h2 := hf 2 (by omega)
  have h3 := hf 3 (by omega)
  have a0 : (C.getD j Cr.none).arc 0 = (C.getD j Cr.none).a := rfl
  have a1 : (C.getD j Cr.none).arc 1 = (C.getD j Cr.none).b := rfl
  have a2 : (C.getD j Cr.none).arc 2 = (C.getD j Cr.none).c := rfl
  have a3 : (C.getD j Cr.none).arc 3 = (C.getD j Cr.none).d := rfl
  rw [a0] at h0
  rw [a1] at h1
  rw [a2] at h2
  rw [a3] at h3
  unfold reX
  rw [hN _ h0.1 (by omega), hN _ h1.1 (by omega), hN _ h2.1 (by omega), hN _ h3.1 (by omega)]
theorem may_natsJ {C : List Cr} {loops : Int} (hm : mayD C loops = true) (i : Nat) (hi : i < C.length) : ∃ (p0 p1 p2 p3 : Nat) (xp : Bool), C.getD i Cr.none = ⟨(p0 : Nat), (p1 : Nat), (p2 : Nat), (p3 : Nat), xp⟩ ∧ p0 ≤ 2 * C.length ∧ p1 ≤ 2 * C.length ∧ p2 ≤ 2 * C.length ∧ p3 ≤ 2 * C.length := by
  have h : ∀ k, k < 4 → 1 ≤ (C.getD i Cr.none).arc k ∧ (C.getD i Cr.none).arc k ≤ 2 * (C.length : Int) := fun k hk => ⟨(may_fit hm i k hi hk).1, (may_fit hm i k hi hk).2.1⟩
  generalize C.getD i Cr.none = x at h
  obtain ⟨xa, xb, xc, xd, xp⟩ := x
  have h0 := h 0 (by omega)
  have h1 := h 1 (by omega)
  have h2 := h 2 (by omega)
  have h3 := h 3 (by omega)
  simp only [Cr.arc] at h0 h1 h2 h3
  simp at h0 h1 h2 h3
  refine ⟨xa.toNat, xb.toNat, xc.toNat, xd.toNat, xp, ?_, by omega, by omega, by omega, by omega⟩
  congr 1 <;> omega
end Go.Proofs.Ytajmogojekichaa
