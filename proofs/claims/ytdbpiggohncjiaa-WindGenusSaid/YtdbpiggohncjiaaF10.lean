/- The walk of Drawing.OnSphere, the rings of FaceRings being given. -/
import Derived.Test.YtdbpiggohncjiaaF8
import Derived.Test.YtdbpiggohncjiaaF6
namespace Go.Proofs.Ytdbpiggohncjiaa
open Go.RowKit

/-- What Drawing.FaceRings tells. -/
def FaceRingsOk : Prop := ∀ (a : Option Addr) (cap : Nat) (C : List Cr) (loops : Int) (gF cF gT cT : Nat) (w : World), mayD C loops = true → Dr w a cap C gF gT →
    Calls Try.prog 85 #[drV a cap C loops gF cF gT cT] w fun e w' => ∃ v, e = .returned v ∧ DartsOwn w' w.heap.size v (facesM C) ∧ Below w.heap.size w w'
def cntI (P : List Int) (p i : Nat) : Nat := (List.range i).countP fun v => decide (P.getD v 0 = (p : Int))
theorem cntI_next (P : List Int) (p i : Nat) : cntI P p (i + 1) = cntI P p i + if P.getD i 0 = (p : Int) then 1 else 0 := by
  unfold cntI
  rw [List.range_succ, List.countP_append]
  congr 1
  by_cases h : P.getD i 0 = (p : Int)
  · rw [if_pos h]; simp only [List.countP_cons, List.countP_nil, h, decide_true, if_true]
  · rw [if_neg h]; simp only [List.countP_cons, List.countP_nil, h, decide_false]; rfl
theorem cntI_le (P : List Int) (p i : Nat) : cntI P p i ≤ i := by
  have := List.countP_le_length (p := fun v => decide (P.getD v 0 = (p : Int))) (l := List.range i)
  simpa [cntI] using this
def cntH (G : List Nat) (P : List Int) (p i : Nat) : Nat := (G.take i).countP fun g => decide (P.getD g 0 = (p : Int))
theorem cntH_next (G : List Nat) (P : List Int) (p i : Nat) (hi : i < G.length) : cntH G P p (i + 1) = cntH G P p i + if P.getD (G.getD i 0) 0 = (p : Int) then 1 else 0 := by
  unfold cntH
  rw [List.take_add_one, List.countP_append]
  congr 1
  have e : G[i]? = some (G.getD i 0) := by rw [List.getD_eq_getElem?_getD, List.getElem?_eq_getElem hi]; rfl
  rw [e]
  by_cases h : P.getD (G.getD i 0) 0 = (p : Int)
  · rw [if_pos h]; simp only [Option.toList_some, List.countP_cons, List.countP_nil, h, decide_true, if_true]
  · rw [if_neg h]; simp only [Option.toList_some, List.countP_cons, List.countP_nil, h, decide_false]; rfl
theorem cntH_le (G : List Nat) (P : List Int) (p i : Nat) : cntH G P p i ≤ G.length := by
  have := List.countP_le_length (p := fun g => decide (P.getD g 0 = (p : Int))) (l := G.take i)
  unfold cntH
  have h3 : (G.take i).length ≤ G.length := by rw [List.length_take]; omega
  omega
/-- The excess of each piece under way. -/
def exL (G : List Nat) (P : List Int) (c i j : Nat) : List Int := (List.range c).map fun p => (cntH G P p j : Int) - (cntI P p i : Int)
theorem exL_len (G : List Nat) (P : List Int) (c i j : Nat) : (exL G P c i j).length = c := by simp [exL]
theorem exL_at (G : List Nat) (P : List Int) (c i j p : Nat) (hp : p < c) : (exL G P c i j).getD p 0 = (cntH G P p j : Int) - (cntI P p i : Int) := by
  simp [exL, List.getD_eq_getElem?_getD, hp]
theorem exL_zero (G : List Nat) (P : List Int) (c : Nat) : List.replicate c (0 : Int) = exL G P c 0 0 := by
  refine List.ext_getElem (by simp [exL]) fun j h1 h2 => ?_
  simp [exL, cntH, cntI]
theorem exL_less (G : List Nat) (P : List Int) (c i q : Nat) (hq : P.getD i 0 = (q : Int)) (hc : q < c) : (exL G P c i 0).set q ((exL G P c i 0).getD q 0 - 1) = exL G P c (i + 1) 0 := by
  rw [exL_at _ _ _ _ _ _ hc]
  refine List.ext_getElem (by simp [exL]) fun j h1 h2 => ?_
  rw [List.getElem_set]
  simp only [exL, List.getElem_map, List.getElem_range]
  rw [cntI_next]
  split
  · rename_i h; subst h; rw [if_pos hq]; omega
  · rename_i h; rw [if_neg (fun e => h (by rw [hq] at e; omega))]; rfl
theorem exL_more (G : List Nat) (P : List Int) (c i j q : Nat) (hj : j < G.length) (hq : P.getD (G.getD j 0) 0 = (q : Int)) (hc : q < c) : (exL G P c i j).set q ((exL G P c i j).getD q 0 + 1) = exL G P c i (j + 1) := by
  rw [exL_at _ _ _ _ _ _ hc]
  refine List.ext_getElem (by simp [exL]) fun k h1 h2 => ?_
  rw [List.getElem_set]
  simp only [exL, List.getElem_map, List.getElem_range]
  rw [cntH_next _ _ _ _ hj]
  split
  · rename_i h; subst h; rw [if_pos hq]; omega
  · rename_i h; rw [if_neg (fun e => h (by rw [hq] at e; omega))]; rfl
theorem exL_ex (n : Nat) (G : List Nat) (P : List Int) (c p : Nat) (hp : p < c) : (exL G P c n G.length).getD p 0 = exI n G P p := by
  rw [exL_at _ _ _ _ _ _ hp]
  unfold exI cntH cntI
  rw [List.take_length]
theorem planar_pieces {C : List Cr} {loops : Int} (hm : mayD C loops = true) {P : List Int} {c : Nat} (hP : PcsAll C P c) : planarB C = true ↔ ∀ p, p < c → exI C.length (headsM C) P p = 2 := by
  rw [planarB_iff]
  exact (sphere_iff hP (whoM_least hm) (headsM_lt hm)).symm
end Go.Proofs.Ytdbpiggohncjiaa
