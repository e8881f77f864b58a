/- Rings of darts in a world; the walk of ref.PlanarIs. -/
import Derived.Test.YtdbpiggohncjiaaF4
namespace Go.Proofs.Ytdbpiggohncjiaa
open Go.RowKit

/-- Rings of darts, to be read; their blocks lie from B on. -/
def RingsAt (w : World) (B : Nat) (v : Value) (L : List (List Nat)) : Prop := ∃ a cap, v = .slice a L.length cap ∧ (0 < L.length → ∃ b off, a = some ⟨b, off, none⟩ ∧ b < w.heap.size ∧ B ≤ b ∧ ∀ j, j < L.length → ∃ g c, w.cell? ⟨b, off + j, none⟩ = some (.slice (some ⟨g, 0, none⟩) (L.getD j []).length c) ∧ g < w.heap.size ∧ B ≤ g ∧ ∀ k, k < (L.getD j []).length → w.cell? ⟨g, k * 2, none⟩ = some (.int .i64 (dA ((L.getD j []).getD k 0) : Nat)) ∧ w.cell? ⟨g, k * 2 + 1, none⟩ = some (.bool (dB ((L.getD j []).getD k 0))))
theorem RingsAt.on {w w' : World} {B : Nat} {v : Value} {L : List (List Nat)} (h : RingsAt w B v L) (hb : Below w.heap.size w w') : RingsAt w' B v L := by
  obtain ⟨a, cap, rfl, f⟩ := h
  refine ⟨a, cap, rfl, fun h0 => ?_⟩
  obtain ⟨b, off, rfl, hlt, hB, hc⟩ := f h0
  refine ⟨b, off, rfl, Nat.lt_of_lt_of_le hlt hb.size, hB, fun j hj => ?_⟩
  obtain ⟨g, c, h1, h2, hG, h3⟩ := hc j hj
  exact ⟨g, c, bcell hb hlt h1, Nat.lt_of_lt_of_le h2 hb.size, hG, fun k hk => ⟨bcell hb h2 (h3 k hk).1, bcell hb h2 (h3 k hk).2⟩⟩
theorem dd_get (l : List Nat) (k : Nat) (hk : k < l.length) : (dd l).getD k (0, false) = (dA (l.getD k 0), dB (l.getD k 0)) := by
  simp [dd, List.getD_eq_getElem?_getD, hk]
theorem DartsOwn.rings {w : World} {B : Nat} {v : Value} {L : List (List Nat)} (h : DartsOwn w B v L) (hn : ∀ j, j < L.length → 0 < (L.getD j []).length) : RingsAt w B v L := by
  obtain ⟨ys, h1, h2, h3⟩ := h
  obtain ⟨a, cap, ev, f⟩ := slots_of_own h2
  refine ⟨a, cap, by rw [ev, h1], fun h0 => ?_⟩
  obtain ⟨b, off, ea, hlt, hc⟩ := f (by omega)
  refine ⟨b, off, ea, hlt, (h2.lt b (by rw [ev, ea]; rfl)).1, fun j hj => ?_⟩
  have hr := h3 j hj
  have hpos := hn j hj
  have hcell := hc j (by omega)
  rcases hr.2 with ⟨_, hz⟩ | ⟨g, c, cur, e1, hBg, hg, _, _, _, htk⟩
  · omega
  · rw [e1] at hcell
    refine ⟨g, c, hcell, (Array.getElem?_eq_some_iff.1 hg).1, hBg, fun k hk => ?_⟩
    have hv := vflat_get (dd (L.getD j [])) k (by rw [dd_len]; exact hk)
    rw [dd_get _ k hk] at hv
    have hcl := fun (o : Nat) (u : Value) (hu : (vflat (dd (L.getD j [])))[o]? = some u) => hr.cells (g := g) (by rw [e1]; rfl) o u hu
    have hadd : ∀ o, (⟨g, 0, none⟩ : Addr).add o = ⟨g, o, none⟩ := fun o => by unfold Addr.add; split <;> simp_all
    have a1 := hcl _ _ hv.1
    have a2 := hcl _ _ hv.2
    rw [hadd] at a1 a2
    exact ⟨a1, a2⟩
theorem facesM_facts {C : List Cr} {loops : Int} (hm : mayD C loops = true) : (facesM C).length ≤ 4 * C.length ∧ ∀ j, j < (facesM C).length → 0 < ((facesM C).getD j []).length ∧ ((facesM C).getD j []).length ≤ 4 * C.length + 1 ∧ ∀ k, k < ((facesM C).getD j []).length → 1 ≤ ((facesM C).getD j []).getD k 0 ∧ ((facesM C).getD j []).getD k 0 ≤ 4 * C.length := by
  refine ⟨walksTo_count _ _ _, fun j hj => ?_⟩
  have hmem : (facesM C).getD j [] ∈ facesM C := by rw [List.getD_eq_getElem?_getD, List.getElem?_eq_getElem hj]; exact List.getElem_mem hj
  obtain ⟨h1, h2, h3⟩ := walksTo_mem (fd_closed hm) (4 * C.length) (Nat.le_refl _) _ hmem
  refine ⟨List.length_pos_iff.2 h1, h2, fun k hk => h3 _ ?_⟩
  generalize (facesM C).getD j [] = l at hk ⊢
  rw [List.getD_eq_getElem?_getD, List.getElem?_eq_getElem hk]
  exact List.getElem_mem hk
theorem facesM_pos {C : List Cr} (h : 0 < C.length) : 0 < (facesM C).length := by
  have h1 := walks_once (fd C) (4 * C.length) 1 (Nat.le_refl _) (by omega)
  unfold facesM
  cases hl : (walksTo (fd C) (4 * C.length) (4 * C.length)).1 with
  | nil => rw [hl] at h1; simp at h1
  | cons x l => simp
/-- The crossings at which the faces' first darts end. -/
def headsM (C : List Cr) : List Nat := (facesM C).map fun l => dC C (l.getD 0 0)
theorem headsM_len (C : List Cr) : (headsM C).length = (facesM C).length := by simp [headsM]
theorem headsM_at (C : List Cr) (i : Nat) (hi : i < (facesM C).length) : (headsM C).getD i 0 = dC C (((facesM C).getD i []).getD 0 0) := by
  simp [headsM, List.getD_eq_getElem?_getD, hi]
theorem headsM_lt {C : List Cr} {loops : Int} (hm : mayD C loops = true) : ∀ g, g ∈ headsM C → g < C.length := fun g hg => by
  obtain ⟨l, hl, rfl⟩ := List.mem_map.1 hg
  obtain ⟨j, hj, rfl⟩ := List.getElem_of_mem hl
  obtain ⟨h1, _, h3⟩ := (facesM_facts hm).2 j hj
  have e : (facesM C).getD j [] = (facesM C)[j] := by rw [List.getD_eq_getElem?_getD, List.getElem?_eq_getElem hj]; rfl
  rw [e] at h1 h3
  exact (d_may hm _ (h3 0 h1).1 (h3 0 h1).2).2.1
/-- The diagram lies on a sphere. -/
def whoM (C : List Cr) : List Nat := levR (List.range C.length) (arcE C) C.length
def planarB (C : List Cr) : Bool := (List.range C.length).all fun p => !decide ((whoM C).getD p 0 = p) || decide (exN C.length (headsM C) (whoM C) p = 2)
theorem planarB_iff (C : List Cr) : planarB C = true ↔ ∀ p, p < C.length → (whoM C).getD p 0 = p → exN C.length (headsM C) (whoM C) p = 2 := by
  unfold planarB
  rw [List.all_eq_true]
  constructor
  · intro h p hp e
    have := h p (List.mem_range.2 hp)
    rw [e] at this
    simpa only [decide_true, Bool.not_true, Bool.false_or, decide_eq_true_eq] using this
  · intro h p hp
    by_cases e : (whoM C).getD p 0 = p
    · simp only [e, decide_true, Bool.not_true, Bool.false_or, decide_eq_true_eq]; exact h p (List.mem_range.1 hp) e
    · simp only [e, decide_false, Bool.not_false, Bool.true_or]
theorem whoM_least {C : List Cr} {loops : Int} (hm : mayD C loops = true) : Least (arcE C) C.length (whoM C) := levR_least (arcE_lt hm) C.length (Nat.le_refl _)
/-- The counts under way. -/
def cntN (W : List Nat) (p : Nat) (i : Nat) : Nat := (List.range i).countP fun v => decide (W.getD v 0 = p)
theorem cntN_next (W : List Nat) (p i : Nat) : cntN W p (i + 1) = cntN W p i + if W.getD i 0 = p then 1 else 0 := by
  unfold cntN
  rw [List.range_succ, List.countP_append]
  congr 1
  by_cases h : W.getD i 0 = p
  · rw [if_pos h]; simp only [List.countP_cons, List.countP_nil, h, decide_true, if_true]
  · rw [if_neg h]; simp only [List.countP_cons, List.countP_nil, h, decide_false]; rfl
theorem cntN_le (W : List Nat) (p i : Nat) : cntN W p i ≤ i := by
  have := List.countP_le_length (p := fun v => decide (W.getD v 0 = p)) (l := List.range i)
  simpa [cntN] using this
def cntG (G : List Nat) (W : List Nat) (p : Nat) (i : Nat) : Nat := (G.take i).countP fun g => decide (W.getD g 0 = p)
theorem cntG_next (G W : List Nat) (p i : Nat) (hi : i < G.length) : cntG G W p (i + 1) = cntG G W p i + if W.getD (G.getD i 0) 0 = p then 1 else 0 := by
  unfold cntG
  rw [List.take_add_one, List.countP_append]
  congr 1
  have e : G[i]? = some (G.getD i 0) := by rw [List.getD_eq_getElem?_getD, List.getElem?_eq_getElem hi]; rfl
  rw [e]
  by_cases h : W.getD (G.getD i 0) 0 = p
  · rw [if_pos h]; simp only [Option.toList_some, List.countP_cons, List.countP_nil, h, decide_true, if_true]
  · rw [if_neg h]; simp only [Option.toList_some, List.countP_cons, List.countP_nil, h, decide_false]; rfl
theorem cntG_le (G W : List Nat) (p i : Nat) : cntG G W p i ≤ G.length := by
  have := List.countP_le_length (p := fun g => decide (W.getD g 0 = p)) (l := G.take i)
  unfold cntG
  have h2 := List.length_take_le i G
  have h3 : (G.take i).length ≤ G.length := by rw [List.length_take]; omega
  omega
theorem ex_cnt (n : Nat) (G W : List Nat) (p : Nat) : exN n G W p = (cntG G W p G.length : Int) - (cntN W p n : Int) := by
  unfold exN cntG cntN
  rw [List.take_length]
end Go.Proofs.Ytdbpiggohncjiaa
