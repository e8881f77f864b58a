/- Several texts of the proof, one behind the other. -/
import Derived.Test.YtagaajlbkfkaiaaW3P
import Derived.Test.YtagaajlbkfkaiaaH4P
import Derived.Test.YtagaajlbkfkaiaaBaseP
import Derived.Deep.RegionHeld3
/- Lists of whole numbers that a call owns; the walk of gauss.evenNumbers. -/
namespace Go.Proofs.Ytagaajlbkfkaiaa
open Go.RowKit

def intsV (l : List Int) : List Value := l.map fun x => .int .i64 x
theorem intsV_len (l : List Int) : (intsV l).length = l.length := by simp [intsV]
theorem intsV_get (l : List Int) (i : Nat) (h : i < l.length) : (intsV l)[i]? = some (.int .i64 (l.getD i 0)) := by simp [intsV, List.getD, h]
theorem intsV_set (l : List Int) (i : Nat) (x : Int) : (intsV l).set i (.int .i64 x) = intsV (l.set i x) := by simp [intsV, List.map_set]
theorem made_zero (n : Nat) : (madeCells (Value.int .i64 0).cells (n * 1)).toList = intsV (List.replicate n 0) := by
  have e : (Value.int .i64 0).cells = #[Value.int .i64 0] := rfl
  rw [e, toList_madeCells_one, Nat.mul_one]
  simp [intsV]
end Go.Proofs.Ytagaajlbkfkaiaa
/- Sums: the walks of Drawing.Has and of the closure that numbers arcs anew, and of drawing.Renumbered with it. -/
namespace Go.Proofs.Ytagaajlbkfkaiaa
open Go.RowKit

/-- The numbers behind k sides. -/
def numTo (g : Nat → Int) (k : Nat) : List Int := (List.range 4).map fun j => if j < k then g j else 0
theorem numTo_len (g : Nat → Int) (k : Nat) : (numTo g k).length = 4 := by simp [numTo]
theorem numTo_next (g : Nat → Int) (k : Nat) (hk : k < 4) : (numTo g k).set k (g k) = numTo g (k + 1) := by
  apply List.ext_getElem?
  intro i
  rw [List.getElem?_set]
  by_cases hi : i < 4
  · by_cases e : k = i
    · subst e
      simp [numTo, hi]
    · rw [if_neg e]
      simp only [numTo, List.getElem?_map, List.getElem?_range hi, Option.map_some]
      congr 1
      by_cases h2 : i < k
      · rw [if_pos h2, if_pos (by omega)]
      · rw [if_neg h2, if_neg (by omega)]
  · rw [List.getElem?_eq_none (by rw [numTo_len]; omega), List.getElem?_eq_none (by rw [numTo_len]; omega)]
    split
    · next e => rw [if_neg (by rw [numTo_len]; omega)]
    · rfl
theorem numTo_zero (g : Nat → Int) : numTo g 0 = [0, 0, 0, 0] := by simp [numTo, List.range_succ]
theorem numTo_four (g : Nat → Int) : intArr (numTo g 4) = #[.int .i64 (g 0), .int .i64 (g 1), .int .i64 (g 2), .int .i64 (g 3)] := by
  simp [numTo, intArr, List.range_succ]
/-- The four boxes that the closure holds. -/
def Boxes (w : World) (x : Cr) (more cut other : Int) (pc px po pm : Nat) : Prop := (pc < w.heap.size ∧ px < w.heap.size ∧ po < w.heap.size ∧ pm < w.heap.size) ∧ w.cell? ⟨pc, 0, none⟩ = some (.int .i64 cut) ∧ w.cell? ⟨px, 0, none⟩ = some (.int .i64 x.a) ∧ w.cell? ⟨px, 1, none⟩ = some (.int .i64 x.b) ∧ w.cell? ⟨px, 2, none⟩ = some (.int .i64 x.c) ∧ w.cell? ⟨px, 3, none⟩ = some (.int .i64 x.d) ∧ w.cell? ⟨px, 4, none⟩ = some (.bool x.plus) ∧ w.cell? ⟨po, 0, none⟩ = some (.int .i64 other) ∧ w.cell? ⟨pm, 0, none⟩ = some (.int .i64 more)
theorem Boxes.kept {B : Nat} {w w' : World} {x : Cr} {more cut other : Int} {pc px po pm : Nat} (h : Boxes w x more cut other pc px po pm) (hb : Below B w w') (l1 : pc < B) (l2 : px < B) (l3 : po < B) (l4 : pm < B) : Boxes w' x more cut other pc px po pm := by
  obtain ⟨⟨a1, a2, a3, a4⟩, c0, c1, c2, c3, c4, c5, c6, c7⟩ := h
  have hs := hb.size
  exact ⟨⟨by omega, by omega, by omega, by omega⟩, bcell hb l1 c0, bcell hb l2 c1, bcell hb l2 c2, bcell hb l2 c3, bcell hb l2 c4, bcell hb l2 c5, bcell hb l3 c6, bcell hb l4 c7⟩

end Go.Proofs.Ytagaajlbkfkaiaa
/- A crossing is stored whole into a row. -/
namespace Go.Proofs.Ytagaajlbkfkaiaa
open Go.RowKit

end Go.Proofs.Ytagaajlbkfkaiaa
/- Plain mathematics: arcs that are one when crossings are gone; their numbers; what is left of a diagram. -/
namespace Go.Proofs.Ytagaajlbkfkaiaa

/-- The joins of the first arcs: each that leads to a crossing that is gone goes on as f tells. -/
def uTo (C : List Cr) (f : Nat → Nat) (G : List Nat) : Nat → List (Nat × Nat)
  | 0 => []
  | a + 1 => uTo C f G a ++ (if toC C (a + 1) ∈ G then [(a + 1, f (a + 1))] else [])
theorem mem_uTo {C : List Cr} {f : Nat → Nat} {G : List Nat} {n : Nat} {e : Nat × Nat} : e ∈ uTo C f G n ↔ ∃ a, 1 ≤ a ∧ a ≤ n ∧ toC C a ∈ G ∧ e = (a, f a) := by
  induction n with
  | zero =>
    refine ⟨fun h => (by cases h), fun ⟨a, h1, h2, _⟩ => absurd h2 (by omega)⟩
  | succ n ih =>
    rw [uTo, List.mem_append, ih]
    constructor
    · rintro (⟨a, h1, h2, h3, h4⟩ | h)
      · exact ⟨a, h1, by omega, h3, h4⟩
      · split at h
        · rename_i hg
          exact ⟨n + 1, by omega, Nat.le_refl _, hg, by simpa using h⟩
        · cases h
    · rintro ⟨a, h1, h2, h3, h4⟩
      by_cases e : a = n + 1
      · subst e
        right
        rw [if_pos h3]
        simp [h4]
      · exact Or.inl ⟨a, h1, by omega, h3, h4⟩
/-- Of each arc the least one that is one with it. -/
def uniM (C : List Cr) (f : Nat → Nat) (G : List Nat) : List Nat := mers (List.range (2 * C.length + 1)) (uTo C f G (2 * C.length))
theorem uTo_lt {C : List Cr} {f : Nat → Nat} {G : List Nat} (hf : ∀ a, 1 ≤ a → a ≤ 2 * C.length → 1 ≤ f a ∧ f a ≤ 2 * C.length) : ∀ e, e ∈ uTo C f G (2 * C.length) → (1 ≤ e.1 ∧ e.1 < 2 * C.length + 1) ∧ (1 ≤ e.2 ∧ e.2 < 2 * C.length + 1) := fun e he => by
  obtain ⟨a, h1, h2, -, rfl⟩ := mem_uTo.1 he
  have := hf a h1 h2
  exact ⟨⟨h1, by dsimp only; omega⟩, this.1, by dsimp only; omega⟩
theorem uni_least {C : List Cr} {f : Nat → Nat} {G : List Nat} (hf : ∀ a, 1 ≤ a → a ≤ 2 * C.length → 1 ≤ f a ∧ f a ≤ 2 * C.length) : Least (uTo C f G (2 * C.length)) (2 * C.length + 1) (uniM C f G) := by
  have := mers_least (2 * C.length + 1) (uTo C f G (2 * C.length)) [] (List.range (2 * C.length + 1)) (fun e he => by
    have h := uTo_lt hf e (by simpa using he)
    exact ⟨h.1.2, h.2.2⟩) (least_nil _)
  simpa [uniM] using this
/-- Is the crossing to which an arc leads gone? (What stands first leads to none.) -/
def goneB (C : List Cr) (G : List Nat) (a : Nat) : Bool := if a = 0 then false else decide (toC C a ∈ G)
/-- Some arc that is one with v leads to a crossing that is left. -/
def stP (C : List Cr) (G : List Nat) (L : List Nat) (m v : Nat) : Prop := ∃ a, a < m ∧ L.getD a 0 = v ∧ goneB C G a = false
/-- Some crossing that is left has an arc that is one with v. -/
def thP (C : List Cr) (G : List Nat) (L : List Nat) (v : Nat) : Prop := ∃ i s, i < C.length ∧ i ∉ G ∧ s < 4 ∧ L.getD ((C.getD i Cr.none).arc s).toNat 0 = v

theorem nodup_sub : ∀ (l m : List Nat), l.Nodup → (∀ x, x ∈ l → x ∈ m) → l.length ≤ m.length := by
  intro l
  induction l with
  | nil => intro m _ _; exact Nat.zero_le _
  | cons x l ih =>
    intro m hn hs
    obtain ⟨h1, h2⟩ := List.nodup_cons.1 hn
    have hx : x ∈ m := hs x (List.Mem.head _)
    have := ih (m.erase x) h2 (fun y hy => by
      have hne : y ≠ x := fun e => h1 (e ▸ hy)
      exact (List.mem_erase_of_ne hne).2 (hs y (List.Mem.tail _ hy)))
    have hl := List.length_erase_of_mem hx
    have hp := List.length_pos_of_mem hx
    simp only [List.length_cons]
    omega
/-- What a one-to-one map of a finite class into itself misses: nothing. -/
theorem onto_class (f : Nat → Nat) (K : List Nat) (hn : K.Nodup) (hf : ∀ a, a ∈ K → f a ∈ K) (hi : ∀ a b, a ∈ K → b ∈ K → f a = f b → a = b) (y : Nat) (hy : y ∈ K) : ∃ x, x ∈ K ∧ f x = y := by
  refine Classical.byContradiction fun h => ?_
  have hno : y ∉ K.map f := fun hm => by
    obtain ⟨x, hx, e⟩ := List.mem_map.1 hm
    exact h ⟨x, hx, e⟩
  have hnm : (K.map f).Nodup := List.pairwise_map.2 (hn.imp_of_mem fun ha hb hab e => hab (hi _ _ ha hb e))
  have := nodup_sub (y :: K.map f) K (List.nodup_cons.2 ⟨hno, hnm⟩) (fun x hx => by
    rcases List.mem_cons.1 hx with rfl | hx
    · exact hy
    · obtain ⟨z, hz, rfl⟩ := List.mem_map.1 hx
      exact hf z hz)
  simp only [List.length_cons, List.length_map] at this
  omega
/-- What goes on: from arc to arc, one to one, out of the crossing to which the arc leads. -/
structure Goes (C : List Cr) (f : Nat → Nat) : Prop where
  closed : ∀ a, 1 ≤ a → a ≤ 2 * C.length → 1 ≤ f a ∧ f a ≤ 2 * C.length
  inj : ∀ a b, 1 ≤ a → a ≤ 2 * C.length → 1 ≤ b → b ≤ 2 * C.length → f a = f b → a = b
  out : ∀ a, 1 ≤ a → a ≤ 2 * C.length → enC C (f a) false = toC C a
theorem st_th {C : List Cr} {loops : Int} (hm : mayD C loops = true) {f : Nat → Nat} (hf : Goes C f) (G : List Nat) (v : Nat) (h1 : 1 ≤ v) :
    thP C G (uniM C f G) v ↔ ((uniM C f G).getD v 0 = v ∧ stP C G (uniM C f G) (2 * C.length + 1) v) := by
  have hL := uni_least (G := G) hf.closed
  generalize hE : uniM C f G = L at hL ⊢
  have hpos : ∀ e, e ∈ uTo C f G (2 * C.length) → 1 ≤ e.1 ∧ 1 ≤ e.2 := fun e he => ⟨(uTo_lt hf.closed e he).1.1, (uTo_lt hf.closed e he).2.1⟩
  constructor
  · rintro ⟨i, s, hi, hG, hs, e⟩
    have ho := en_one hm i s hi hs
    obtain ⟨a, ha⟩ : ∃ a, ((C.getD i Cr.none).arc s).toNat = a := ⟨_, rfl⟩
    rw [ha] at e ho
    obtain ⟨a1, a2, a3⟩ := ho
    have hroot := hL.root (v := a) (by omega)
    rw [e] at hroot
    refine ⟨hroot, ?_⟩
    cases hc : (C.getD i Cr.none).comes s with
    | true =>
      rw [hc] at a3
      refine ⟨a, by omega, e, ?_⟩
      unfold goneB
      rw [if_neg (by omega)]
      have e3 : toC C a = i := a3
      rw [e3]
      simpa using hG
    | false =>
      rw [hc] at a3
      refine Classical.byContradiction fun hno => ?_
      have hall : ∀ x, 1 ≤ x → x ≤ 2 * C.length → L.getD x 0 = v → toC C x ∈ G := fun x x1 x2 x3 => Classical.byContradiction fun hx => hno ⟨x, by omega, x3, by unfold goneB; rw [if_neg (by omega)]; simpa using hx⟩
      obtain ⟨K, hK⟩ : ∃ K, K = (List.range (2 * C.length + 1)).filter (fun x => decide (1 ≤ x) && decide (L.getD x 0 = v)) := ⟨_, rfl⟩
      have hmem : ∀ x, x ∈ K ↔ (1 ≤ x ∧ x ≤ 2 * C.length ∧ L.getD x 0 = v) := fun x => by
        rw [hK, List.mem_filter, List.mem_range]
        simp only [Bool.and_eq_true, decide_eq_true_eq]
        omega
      obtain ⟨x, hx, hfx⟩ := onto_class f K (by rw [hK]; exact List.nodup_range.filter _) (fun x hx => by
        obtain ⟨x1, x2, x3⟩ := (hmem x).1 hx
        have hc2 := hf.closed x x1 x2
        refine (hmem _).2 ⟨hc2.1, hc2.2, ?_⟩
        rw [← x3]
        exact ((hL.same (by omega) (by omega)).2 (Con.edge (mem_uTo.2 ⟨x, x1, x2, hall x x1 x2 x3, rfl⟩))).symm) (fun x y hx hy e => by
        obtain ⟨x1, x2, -⟩ := (hmem x).1 hx
        obtain ⟨y1, y2, -⟩ := (hmem y).1 hy
        exact hf.inj x y x1 x2 y1 y2 e) a ((hmem a).2 ⟨a1, a2, e⟩)
      obtain ⟨x1, x2, x3⟩ := (hmem x).1 hx
      have h5 := hf.out x x1 x2
      rw [hfx, a3] at h5
      exact hG (h5 ▸ hall x x1 x2 x3)
  · rintro ⟨hr, a, ha, e, hg⟩
    have a1 : 1 ≤ a := by
      rcases Nat.eq_zero_or_pos a with rfl | h
      · have := hL.le (v := 0) (by omega)
        omega
      · exact h
    obtain ⟨-, h4, h5, h6, h7⟩ := to_may hm a a1 (by omega)
    unfold goneB at hg
    rw [if_neg (by omega)] at hg
    exact ⟨toC C a, toS C a, h4, by simpa using hg, h5, by rw [h6]; exact e⟩

/-- How many below k are so. -/
def cntB (P : Nat → Bool) : Nat → Nat
  | 0 => 0
  | k + 1 => cntB P k + (if 1 ≤ k ∧ P k = true then 1 else 0)
theorem cntB_le (P : Nat → Bool) (k : Nat) : cntB P k ≤ k := by
  induction k with
  | zero => exact Nat.le_refl _
  | succ k ih => simp only [cntB]; split <;> omega
theorem cntB_eq {P Q : Nat → Bool} {k : Nat} (h : ∀ u, 1 ≤ u → u < k → P u = Q u) : cntB P k = cntB Q k := by
  induction k with
  | zero => rfl
  | succ k ih =>
    have := ih (fun u h1 h2 => h u h1 (by omega))
    simp only [cntB]
    rw [this]
    by_cases h1 : 1 ≤ k
    · rw [h k h1 (by omega)]
    · rw [if_neg (fun z => h1 z.1), if_neg (fun z => h1 z.1)]
/-- The number of an arc: that of the least one that is one with it. -/
def numM (L : List Nat) (P : Nat → Bool) (a : Nat) : Nat := if P (L.getD a 0) = true then cntB P (L.getD a 0) + 1 else 0
/-- A crossing with other numbers. -/
def reX (h : Nat → Nat) (x : Cr) : Cr := ⟨h x.a.toNat, h x.b.toNat, h x.c.toNat, h x.d.toNat, x.plus⟩
/-- The crossings that are left of the first ones. -/
def reTo (C : List Cr) (G : List Nat) (h : Nat → Nat) : Nat → List Cr
  | 0 => []
  | i + 1 => reTo C G h i ++ (if i ∈ G then [] else [reX h (C.getD i Cr.none)])
theorem reTo_len (C : List Cr) (G : List Nat) (h : Nat → Nat) (i : Nat) : (reTo C G h i).length ≤ i := by
  induction i with
  | zero => exact Nat.le_refl _
  | succ i ih => simp only [reTo, List.length_append]; split <;> simp <;> omega
theorem reTo_eq {C : List Cr} {G : List Nat} {h g : Nat → Nat} {i : Nat} (e : ∀ j, j < i → j ∉ G → reX h (C.getD j Cr.none) = reX g (C.getD j Cr.none)) : reTo C G h i = reTo C G g i := by
  induction i with
  | zero => rfl
  | succ i ih =>
    simp only [reTo]
    rw [ih (fun j hj => e j (by omega))]
    by_cases hg : i ∈ G
    · rw [if_pos hg, if_pos hg]
    · rw [if_neg hg, if_neg hg, e i (by omega) hg]

theorem to_side {C : List Cr} {loops : Int} (hm : mayD C loops = true) (k s : Nat) (hk : k < C.length) (hs : s < 4) (hc : (C.getD k Cr.none).comes s = true) : 1 ≤ ((C.getD k Cr.none).arc s).toNat ∧ ((C.getD k Cr.none).arc s).toNat ≤ 2 * C.length ∧ toC C ((C.getD k Cr.none).arc s).toNat = k ∧ toS C ((C.getD k Cr.none).arc s).toNat = s := by
  have hf := may_fit hm k s hk hs
  have g1 := hf.1
  have g2 := hf.2.1
  have ha : 1 ≤ ((C.getD k Cr.none).arc s).toNat ∧ ((C.getD k Cr.none).arc s).toNat ≤ 2 * C.length := by omega
  have e := end_one hm _ ha.1 ha.2 true k s hk hs (by omega) hc
  refine ⟨ha.1, ha.2, ?_, ?_⟩
  · unfold toC; rw [e]; rfl
  · unfold toS; rw [e]; rfl
end Go.Proofs.Ytagaajlbkfkaiaa
/- Plain mathematics: which labels are left, and their numbers, place by place. -/
namespace Go.Proofs.Ytagaajlbkfkaiaa

/-- Does one of the first m arcs that are one with v lead to a crossing that is left? -/
def stB (C : List Cr) (G : List Nat) (L : List Nat) (m v : Nat) : Bool := (List.range m).any fun a => decide (L.getD a 0 = v) && !goneB C G a
theorem stB_iff {C : List Cr} {G L : List Nat} {m v : Nat} : stB C G L m v = true ↔ stP C G L m v := by
  unfold stB stP
  rw [List.any_eq_true]
  constructor
  · rintro ⟨a, ha, h⟩
    rw [Bool.and_eq_true, decide_eq_true_eq] at h
    exact ⟨a, List.mem_range.1 ha, h.1, by simpa using h.2⟩
  · rintro ⟨a, ha, h1, h2⟩
    exact ⟨a, List.mem_range.2 ha, by rw [h2, decide_eq_true h1]; rfl⟩
theorem stB_next (C : List Cr) (G L : List Nat) (m v : Nat) : stB C G L (m + 1) v = (stB C G L m v || (decide (L.getD m 0 = v) && !goneB C G m)) := by
  unfold stB
  rw [List.range_succ, List.any_append]
  simp
def stTo (C : List Cr) (G L : List Nat) (N m : Nat) : List Bool := (List.range N).map (stB C G L m)
theorem stTo_len (C : List Cr) (G L : List Nat) (N m : Nat) : (stTo C G L N m).length = N := by simp [stTo]
theorem stTo_at (C : List Cr) (G L : List Nat) (N m v : Nat) (hv : v < N) : (stTo C G L N m).getD v true = stB C G L m v := by simp [stTo, List.getD_eq_getElem?_getD, hv]
theorem stTo_zero (C : List Cr) (G L : List Nat) (N : Nat) : List.replicate N false = stTo C G L N 0 := by
  refine List.ext_getElem (by simp [stTo]) fun j h1 h2 => ?_
  simp [stTo, stB]
theorem stTo_next (C : List Cr) (G L : List Nat) (N m q : Nat) (hq : L.getD m 0 = q) (b : Bool) (hb : b = (stB C G L m q || !goneB C G m)) : (stTo C G L N m).set q b = stTo C G L N (m + 1) := by
  refine List.ext_getElem (by simp [stTo]) fun j h1 h2 => ?_
  simp only [List.getElem_set, stTo, List.getElem_map, List.getElem_range]
  rw [stB_next, hq]
  by_cases e : q = j
  · subst e; rw [if_pos rfl, hb]; simp
  · rw [if_neg e]; simp [e]
/-- Least ones that are left; least ones that are not. -/
def ltB (L : List Nat) (t : Nat → Bool) (v : Nat) : Bool := decide (L.getD v 0 = v) && t v
def lfB (L : List Nat) (t : Nat → Bool) (v : Nat) : Bool := decide (L.getD v 0 = v) && !t v
/-- The numbers of the first arcs. -/
def nmTo (L : List Nat) (P : Nat → Bool) (N j : Nat) : List Nat := (List.range N).map fun v => if v < j ∧ 1 ≤ v then numM L P v else 0
theorem nmTo_len (L : List Nat) (P : Nat → Bool) (N j : Nat) : (nmTo L P N j).length = N := by simp [nmTo]
theorem nmTo_at (L : List Nat) (P : Nat → Bool) (N j v : Nat) (hv : v < N) : (nmTo L P N j).getD v 0 = if v < j ∧ 1 ≤ v then numM L P v else 0 := by simp [nmTo, List.getD_eq_getElem?_getD, hv]
theorem nmTo_zero (L : List Nat) (P : Nat → Bool) (N : Nat) : List.replicate N 0 = nmTo L P N 1 := by
  refine List.ext_getElem (by simp [nmTo]) fun j h1 h2 => ?_
  simp only [nmTo, List.getElem_map, List.getElem_range, List.getElem_replicate]
  rw [if_neg (by omega)]
theorem nmTo_next (L : List Nat) (P : Nat → Bool) (N j z : Nat) (h1 : 1 ≤ j) (hz : numM L P j = z) : (nmTo L P N j).set j z = nmTo L P N (j + 1) := by
  refine List.ext_getElem (by simp [nmTo]) fun i h2 h3 => ?_
  simp only [List.getElem_set, nmTo, List.getElem_map, List.getElem_range]
  by_cases e : j = i
  · subst e; rw [if_pos rfl, if_pos ⟨by omega, h1⟩, hz]
  · rw [if_neg e]
    by_cases h4 : i < j ∧ 1 ≤ i
    · rw [if_pos h4, if_pos ⟨by omega, h4.2⟩]
    · rw [if_neg h4, if_neg (fun q => h4 ⟨by omega, q.2⟩)]
theorem nmTo_same (L : List Nat) (P : Nat → Bool) (N j : Nat) (hz : numM L P j = 0) : nmTo L P N j = nmTo L P N (j + 1) := by
  refine List.map_congr_left fun i _ => ?_
  by_cases h4 : i < j ∧ 1 ≤ i
  · rw [if_pos h4, if_pos ⟨by omega, h4.2⟩]
  · rw [if_neg h4]
    by_cases h5 : i < j + 1 ∧ 1 ≤ i
    · have e : i = j := by omega
      rw [if_pos h5, e, hz]
    · rw [if_neg h5]
theorem cntB_yes (P : Nat → Bool) (j : Nat) (h1 : 1 ≤ j) (h : P j = true) : cntB P (j + 1) = cntB P j + 1 := by simp only [cntB]; rw [if_pos ⟨h1, h⟩]
theorem cntB_no (P : Nat → Bool) (j : Nat) (h : P j = false) : cntB P (j + 1) = cntB P j := by simp only [cntB]; rw [if_neg (fun z => by rw [h] at z; cases z.2)]; rfl
theorem cntB_one (P : Nat → Bool) : cntB P 1 = 0 := by simp [cntB]
theorem reTo_next (C : List Cr) (G : List Nat) (h : Nat → Nat) (i : Nat) : reTo C G h (i + 1) = if i ∈ G then reTo C G h i else reTo C G h i ++ [reX h (C.getD i Cr.none)] := by
  simp only [reTo]
  split <;> simp
end Go.Proofs.Ytagaajlbkfkaiaa
/- Plain mathematics: what the reference's smoothing leaves is what the code's leaves. -/
namespace Go.Proofs.Ytagaajlbkfkaiaa

/-- Has a crossing among the first i (k left out), or of crossing i a side below s, an arc that is one with v? -/
def rowB (C : List Cr) (L : List Nat) (i s v : Nat) : Bool := (List.range s).any fun t => decide (L.getD ((C.getD i Cr.none).arc t).toNat 0 = v)
theorem rowB_next (C : List Cr) (L : List Nat) (i s v : Nat) : rowB C L i (s + 1) v = (rowB C L i s v || decide (L.getD ((C.getD i Cr.none).arc s).toNat 0 = v)) := by
  unfold rowB
  rw [List.range_succ, List.any_append]
  simp
/-- The reference's numbers of the first arcs. -/
def rfTo (P : Nat → Bool) (N j : Nat) : List Nat := (List.range N).map fun v => if v < j ∧ 1 ≤ v ∧ P v = true then cntB P v + 1 else 0
theorem rfTo_len (P : Nat → Bool) (N j : Nat) : (rfTo P N j).length = N := by simp [rfTo]
theorem rfTo_at (P : Nat → Bool) (N j v : Nat) (hv : v < N) : (rfTo P N j).getD v 0 = if v < j ∧ 1 ≤ v ∧ P v = true then cntB P v + 1 else 0 := by simp [rfTo, List.getD_eq_getElem?_getD, hv]
theorem rfTo_zero (P : Nat → Bool) (N : Nat) : List.replicate N 0 = rfTo P N 1 := by
  refine List.ext_getElem (by simp [rfTo]) fun j h1 h2 => ?_
  simp only [rfTo, List.getElem_map, List.getElem_range, List.getElem_replicate]
  rw [if_neg (by omega)]
theorem rfTo_yes (P : Nat → Bool) (N j : Nat) (h1 : 1 ≤ j) (h : P j = true) : (rfTo P N j).set j (cntB P j + 1) = rfTo P N (j + 1) := by
  refine List.ext_getElem (by simp [rfTo]) fun i h2 h3 => ?_
  simp only [List.getElem_set, rfTo, List.getElem_map, List.getElem_range]
  by_cases e : j = i
  · subst e; rw [if_pos rfl, if_pos ⟨by omega, h1, h⟩]
  · rw [if_neg e]
    by_cases h4 : i < j ∧ 1 ≤ i ∧ P i = true
    · rw [if_pos h4, if_pos ⟨by omega, h4.2⟩]
    · rw [if_neg h4, if_neg (fun q => h4 ⟨by omega, q.2⟩)]
theorem rfTo_no (P : Nat → Bool) (N j : Nat) (h : P j = false) : rfTo P N j = rfTo P N (j + 1) := by
  refine List.map_congr_left fun i _ => ?_
  by_cases h4 : i < j ∧ 1 ≤ i ∧ P i = true
  · rw [if_pos h4, if_pos ⟨by omega, h4.2⟩]
  · rw [if_neg h4, if_neg (fun q => h4 ⟨by
      have : i ≠ j := fun e => by rw [e, h] at q; cases q.2.2
      omega, q.2⟩)]
/-- Least ones of which nothing is left, by the reference. -/
def nfB (L : List Nat) (P : Nat → Bool) (v : Nat) : Bool := !P v && decide (L.getD v 0 = v)

theorem may_natsJ {C : List Cr} {loops : Int} (hm : mayD C loops = true) (i : Nat) (hi : i < C.length) : ∃ (p0 p1 p2 p3 : Nat) (xp : Bool), C.getD i Cr.none = ⟨(p0 : Nat), (p1 : Nat), (p2 : Nat), (p3 : Nat), xp⟩ ∧ p0 ≤ 2 * C.length ∧ p1 ≤ 2 * C.length ∧ p2 ≤ 2 * C.length ∧ p3 ≤ 2 * C.length := by
  have h : ∀ k, k < 4 → 1 ≤ (C.getD i Cr.none).arc k ∧ (C.getD i Cr.none).arc k ≤ 2 * (C.length : Int) := fun k hk => ⟨(may_fit hm i k hi hk).1, (may_fit hm i k hi hk).2.1⟩
  generalize C.getD i Cr.none = x at h
  obtain ⟨xa, xb, xc, xd, xp⟩ := x
  have h0 := h 0 (by omega)
  have h1 := h 1 (by omega)
  have h2 := h 2 (by omega)
  have h3 := h 3 (by omega)
  simp only [Cr.arc] at h0 h1 h2 h3
  simp at h0 h1 h2 h3
  refine ⟨xa.toNat, xb.toNat, xc.toNat, xd.toNat, xp, ?_, by omega, by omega, by omega, by omega⟩
  congr 1 <;> omega
end Go.Proofs.Ytagaajlbkfkaiaa
/- Slices that are read; lists of numbers that stand in a function's values; which walk an arc lies in. -/
namespace Go.Proofs.Ytagaajlbkfkaiaa
open Go.RowKit

/-- A slice to be read: nil; with no element; or its cells lie there, below B. -/
def RdAt (w : World) (B size : Nat) (v : Value) (n : Nat) (xs : List Value) : Prop := ∃ a cap, v = .slice a n cap ∧ (0 < n → ∃ b off, a = some ⟨b, off, none⟩ ∧ b < B ∧ ∀ j, j < n * size → w.cell? ⟨b, off + j, none⟩ = xs[j]?)
theorem RdAt.on {w w' : World} {B size n : Nat} {v : Value} {xs : List Value} (h : RdAt w B size v n xs) (hb : Below B w w') : RdAt w' B size v n xs := by
  obtain ⟨a, cap, rfl, f⟩ := h
  refine ⟨a, cap, rfl, fun h0 => ?_⟩
  obtain ⟨b, off, rfl, hlt, hc⟩ := f h0
  exact ⟨b, off, rfl, hlt, fun j hj => bcell hb hlt (hc j hj)⟩
theorem RdAt.mono {w : World} {B B' size n : Nat} {v : Value} {xs : List Value} (h : RdAt w B size v n xs) (hB : B ≤ B') : RdAt w B' size v n xs := by
  obtain ⟨a, cap, rfl, f⟩ := h
  refine ⟨a, cap, rfl, fun h0 => ?_⟩
  obtain ⟨b, off, rfl, hlt, hc⟩ := f h0
  exact ⟨b, off, rfl, Nat.lt_of_lt_of_le hlt hB, hc⟩
theorem own_rd {w : World} {B e size n : Nat} {v : Value} {xs : List Value} (h : w.ownsRow B e size v n xs) : RdAt w w.heap.size size v n xs := by
  have h0 := h
  rcases h.2 with ⟨rfl, h1⟩ | ⟨g, cap, cur, rfl, _, _, _⟩
  · exact ⟨none, 0, by rw [h1], fun hp => by omega⟩
  · exact ⟨some ⟨g, 0, none⟩, cap, rfl, fun _ => ⟨g, 0, rfl, (h0.lt g rfl).2, fun j hj => by rw [Nat.zero_add]; exact h0.cellAt j hj⟩⟩
/-- Lists of numbers to be read. -/
def NatsRd (w : World) (B : Nat) (v : Value) (L : List (List Nat)) : Prop := ∃ ys : List Value, ys.length = L.length ∧ RdAt w B 1 v L.length ys ∧ ∀ j, j < L.length → RdAt w B 1 (ys.getD j (.bool false)) (L.getD j []).length (nats (L.getD j []))
theorem NatsRd.on {w w' : World} {B : Nat} {v : Value} {L : List (List Nat)} (h : NatsRd w B v L) (hb : Below B w w') : NatsRd w' B v L := by
  obtain ⟨ys, hy, h1, h2⟩ := h
  exact ⟨ys, hy, h1.on hb, fun j hj => (h2 j hj).on hb⟩
theorem NatsRd.mono {w : World} {B B' : Nat} {v : Value} {L : List (List Nat)} (h : NatsRd w B v L) (hB : B ≤ B') : NatsRd w B' v L := by
  obtain ⟨ys, hy, h1, h2⟩ := h
  exact ⟨ys, hy, h1.mono hB, fun j hj => (h2 j hj).mono hB⟩
theorem NatsRd.up {w w' : World} {v : Value} {L : List (List Nat)} (h : NatsRd w w.heap.size v L) (hb : Below w.heap.size w w') : NatsRd w' w'.heap.size v L := (h.on hb).mono hb.size
theorem NatsOwn.rd {w : World} {B : Nat} {v : Value} {L : List (List Nat)} (h : NatsOwn w B v L) : NatsRd w w.heap.size v L := by
  obtain ⟨ys, hy, h1, h2⟩ := h
  exact ⟨ys, hy, by rw [← hy]; exact own_rd h1, fun j hj => own_rd (h2 j hj)⟩
theorem NatsRd.len {w : World} {B : Nat} {v : Value} {L : List (List Nat)} (h : NatsRd w B v L) : ∃ a cap, v = .slice a L.length cap := by
  obtain ⟨ys, hy, ⟨a, cap, e, -⟩, h2⟩ := h
  exact ⟨a, cap, e⟩
/-- The row j, and where it stands. -/
theorem NatsRd.row {w : World} {B : Nat} {a : Option Addr} {cap : Nat} {L : List (List Nat)} (h : NatsRd w B (.slice a L.length cap) L) (j : Nat) (hj : j < L.length) :
    ∃ b off ar cr, a = some ⟨b, off, none⟩ ∧ b < B ∧ w.cell? ⟨b, off + j, none⟩ = some (.slice ar (L.getD j []).length cr) ∧ RdAt w B 1 (.slice ar (L.getD j []).length cr) (L.getD j []).length (nats (L.getD j [])) := by
  obtain ⟨ys, hy, ⟨a', cap', e, f⟩, h2⟩ := h
  injection e with e1 e2 e3
  obtain ⟨b, off, eb, hlt, hc⟩ := f (by omega)
  have hr := h2 j hj
  obtain ⟨ar, cr, er, -⟩ := hr
  have hr := h2 j hj
  rw [er] at hr
  refine ⟨b, off, ar, cr, e1.trans eb, hlt, ?_, hr⟩
  rw [hc j (by omega), ← er]
  simp [List.getD, hy, hj]
/-- In which row a number lies. -/
def pt (L : List (List Nat)) (a : Nat) : Nat := L.findIdx fun l => decide (a ∈ l)
end Go.Proofs.Ytagaajlbkfkaiaa
/- Plain mathematics: rings of a renaming are closed; in which face a dart lies. -/
namespace Go.Proofs.Ytagaajlbkfkaiaa

theorem un_le (l : List Bool) (y : Nat) : un l y ≤ 1 := by unfold un; split <;> omega
theorem unseen_none {l : List Bool} (h : unseen l = 0) (x : Nat) : l.getD x true = true := by
  cases e : l.getD x true with
  | true => rfl
  | false => have := unseen_pos e; omega
theorem walkF_chain (f : Nat → Nat) : ∀ (m : Nat) (seen : List Bool) (x : Nat) (acc : List Nat), unseen seen ≤ m → (∀ i, i + 1 < acc.length → acc.getD (i + 1) 0 = f (acc.getD i 0)) → (0 < acc.length → x = f (acc.getD (acc.length - 1) 0)) →
    (∀ i, i + 1 < (walkF f m seen x acc).1.length → (walkF f m seen x acc).1.getD (i + 1) 0 = f ((walkF f m seen x acc).1.getD i 0)) ∧ (0 < (walkF f m seen x acc).1.length → un (walkF f m seen x acc).2 (f ((walkF f m seen x acc).1.getD ((walkF f m seen x acc).1.length - 1) 0)) = 0) := by
  intro m
  induction m with
  | zero =>
    intro seen x acc hu hc hx
    refine ⟨hc, fun h0 => ?_⟩
    show un seen (f (acc.getD (acc.length - 1) 0)) = 0
    rw [← hx h0]
    unfold un
    rw [if_pos (unseen_none (by omega) x)]
  | succ m ih =>
    intro seen x acc hu hc hx
    by_cases hs : seen.getD x true = true
    · rw [walkF_seen hs]
      refine ⟨hc, fun h0 => ?_⟩
      show un seen (f (acc.getD (acc.length - 1) 0)) = 0
      rw [← hx h0]
      unfold un
      rw [if_pos hs]
    · have hs' : seen.getD x true = false := by simpa using hs
      obtain ⟨e, hu2⟩ := walkF_more (f := f) (acc := acc) hs' hu
      rw [e]
      refine ih _ _ _ hu2 (fun i hi => ?_) (fun _ => ?_)
      · rw [List.length_append, List.length_singleton] at hi
        by_cases hi2 : i + 1 < acc.length
        · have e1 : (acc ++ [x]).getD (i + 1) 0 = acc.getD (i + 1) 0 := by simp [List.getD_eq_getElem?_getD, List.getElem?_append_left hi2]
          have e2 : (acc ++ [x]).getD i 0 = acc.getD i 0 := by simp [List.getD_eq_getElem?_getD, List.getElem?_append_left (show i < acc.length by omega)]
          rw [e1, e2]
          exact hc i hi2
        · have hl : acc.length = i + 1 := by omega
          have e1 : (acc ++ [x]).getD (i + 1) 0 = x := by rw [← hl]; simp [List.getD_eq_getElem?_getD]
          have e2 : (acc ++ [x]).getD i 0 = acc.getD i 0 := by simp [List.getD_eq_getElem?_getD, List.getElem?_append_left (show i < acc.length by omega)]
          rw [e1, e2, hx (by omega), hl]
          rfl
      · have e1 : (acc ++ [x]).getD ((acc ++ [x]).length - 1) 0 = x := by simp [List.getD_eq_getElem?_getD]
        rw [e1]
theorem mem_atZ {l : List Nat} {y : Nat} (h : y ∈ l) : ∃ i, i < l.length ∧ l.getD i 0 = y := by
  obtain ⟨i, hi, e⟩ := List.getElem_of_mem h
  exact ⟨i, hi, by rw [List.getD_eq_getElem?_getD, List.getElem?_eq_getElem hi]; exact e⟩
theorem at_mem {l : List Nat} {i : Nat} (h : i < l.length) : l.getD i 0 ∈ l := by
  rw [List.getD_eq_getElem?_getD, List.getElem?_eq_getElem h]
  exact List.getElem_mem h
theorem at_ne {l : List Nat} (h : ∀ y, l.count y ≤ 1) {i j : Nat} (hij : i < j) (hj : j < l.length) : l.getD i 0 ≠ l.getD j 0 := by
  have hn : l.Nodup := List.nodup_iff_count.2 h
  have := List.pairwise_iff_getElem.1 hn i j (by omega) hj hij
  rw [List.getD_eq_getElem?_getD, List.getElem?_eq_getElem (by omega), List.getD_eq_getElem?_getD, List.getElem?_eq_getElem hj]
  exact this
/-- Rings of a renaming are closed, and nothing that is not in them goes into them. -/
theorem rings_closed {f : Nat → Nat} {n : Nat} (hf : ∀ a, 1 ≤ a → a ≤ n → 1 ≤ f a ∧ f a ≤ n) (hi : ∀ a b, 1 ≤ a → a ≤ n → 1 ≤ b → b ≤ n → f a = f b → a = b) : ∀ a, a ≤ n →
    (∀ l, l ∈ (walksTo f n a).1 → ∀ y, y ∈ l → f y ∈ l) ∧ (∀ y, 1 ≤ y → y ≤ n → un (walksTo f n a).2 (f y) = 0 → un (walksTo f n a).2 y = 0) ∧
    (∀ l, l ∈ (walksTo f n a).1 → (∀ i, i + 1 < l.length → l.getD (i + 1) 0 = f (l.getD i 0)) ∧ f (l.getD (l.length - 1) 0) = l.getD 0 0) := by
  intro a
  induction a with
  | zero =>
    intro _
    refine ⟨fun l hl => absurd hl (by simp [walksTo]), fun y h1 h2 h3 => ?_, fun l hl => absurd hl (by simp [walksTo])⟩
    have h4 := hf y h1 h2
    exfalso
    have : un (walksTo f n 0).2 (f y) = 1 := by
      simp [walksTo, un, List.getD_eq_getElem?_getD, show f y < n + 1 by omega]
    omega
  | succ a ih =>
    intro ha
    obtain ⟨i1, i2, i3⟩ := ih (by omega)
    have hin := walksTo_mem hf a (by omega)
    generalize hr : walksTo f n a = r at i1 i2 i3 hin
    have hlen : r.2.length = n + 1 := by rw [← hr]; exact walksTo_len f n a
    have hch := walkF_chain f (n + 1) r.2 (a + 1) [] (by have := unseen_le r.2; omega) (fun i hi => by simp at hi) (fun h0 => by simp at h0)
    have hmem := walkF_mem hf (n + 1) r.2 (a + 1) [] (by omega) ha (fun y hy => by cases hy)
    have hcnt := walkF_count f (n + 1) r.2 (a + 1) []
    have hkeep := walkF_keep f (n + 1) r.2 (a + 1) []
    have e : walksTo f n (a + 1) = (if (walkF f (n + 1) r.2 (a + 1) []).1 = [] then r.1 else r.1 ++ [(walkF f (n + 1) r.2 (a + 1) []).1], (walkF f (n + 1) r.2 (a + 1) []).2) := by simp only [walksTo, hr]
    rw [e]
    generalize walkF f (n + 1) r.2 (a + 1) [] = s at hch hmem hcnt hkeep
    obtain ⟨l, sn⟩ := s
    simp only [List.count_nil, Nat.zero_add] at hch hmem hcnt hkeep ⊢
    have hc1 : ∀ y, l.count y ≤ 1 := fun y => by have := hcnt y; have := un_le r.2 y; omega
    have hin1 : ∀ y, y ∈ l → un r.2 y = 1 ∧ un sn y = 0 := fun y hy => by
      have h1 : 1 ≤ l.count y := List.one_le_count_iff.2 hy
      have h2 := hcnt y
      have h3 := un_le r.2 y
      omega
    -- what stands behind the last is the first
    have hend : 0 < l.length → f (l.getD (l.length - 1) 0) = l.getD 0 0 := fun h0 => by
      have hlast := at_mem (l := l) (i := l.length - 1) (by omega)
      have hb := hmem _ hlast
      have hz := hch.2 h0
      have hnz : un r.2 (f (l.getD (l.length - 1) 0)) ≠ 0 := fun q => by
        have := i2 _ hb.1 hb.2 q
        have := (hin1 _ hlast).1
        omega
      have hz1 : f (l.getD (l.length - 1) 0) ∈ l := by
        have h2 := hcnt (f (l.getD (l.length - 1) 0))
        refine List.one_le_count_iff.1 ?_
        omega
      obtain ⟨j, hj, ej⟩ := mem_atZ hz1
      cases j with
      | zero => exact ej.symm
      | succ j =>
        exfalso
        have h5 := hch.1 j hj
        rw [ej] at h5
        have hbj := hmem _ (at_mem (l := l) (i := j) (by omega))
        have h6 := hi _ _ hb.1 hb.2 hbj.1 hbj.2 h5
        exact at_ne hc1 (i := j) (j := l.length - 1) (by omega) (by omega) h6.symm
    refine ⟨?_, fun y h1 h2 h3 => ?_, fun l' hl' => ?_⟩
    · intro l' hl' y hy
      by_cases hnil : l = []
      · rw [if_pos hnil] at hl'
        exact i1 l' hl' y hy
      · rw [if_neg hnil] at hl'
        rcases List.mem_append.1 hl' with h | h
        · exact i1 l' h y hy
        · obtain rfl := List.mem_singleton.1 h
          obtain ⟨i, hil, rfl⟩ := mem_atZ hy
          by_cases hlast : i + 1 < l'.length
          · rw [← hch.1 i hlast]
            exact at_mem hlast
          · have hi1 : i = l'.length - 1 := by omega
            rw [hi1, hend (by omega)]
            exact at_mem (by omega)
    · by_cases hq : un r.2 (f y) = 0
      · exact hkeep y (i2 y h1 h2 hq)
      · have hmy : f y ∈ l := List.one_le_count_iff.1 (by have := hcnt (f y); omega)
        obtain ⟨j, hj, ej⟩ := mem_atZ hmy
        cases j with
        | zero =>
          have hlast := at_mem (l := l) (i := l.length - 1) (by omega)
          have hb := hmem _ hlast
          have := hi y _ h1 h2 hb.1 hb.2 (by rw [hend (by omega), ej])
          rw [this]
          exact (hin1 _ hlast).2
        | succ j =>
          have h5 := hch.1 j hj
          rw [ej] at h5
          have hbj := hmem _ (at_mem (l := l) (i := j) (by omega))
          have := hi y _ h1 h2 hbj.1 hbj.2 h5
          rw [this]
          exact (hin1 _ (at_mem (by omega))).2
    · by_cases hnil : l = []
      · rw [if_pos hnil] at hl'
        exact i3 l' hl'
      · rw [if_neg hnil] at hl'
        rcases List.mem_append.1 hl' with h | h
        · exact i3 l' h
        · obtain rfl := List.mem_singleton.1 h
          have h0 : 0 < l'.length := by
            cases l' with
            | nil => exact absurd rfl hnil
            | cons => simp
          exact ⟨hch.1, hend h0⟩
theorem fd_inj {C : List Cr} {loops : Int} (hm : mayD C loops = true) (i j : Nat) (h1 : 1 ≤ i) (h2 : i ≤ 4 * C.length) (h3 : 1 ≤ j) (h4 : j ≤ 4 * C.length) (e : fd C i = fd C j) : i = j := by
  obtain ⟨p1, p2, p3⟩ := d_may hm i h1 h2
  obtain ⟨q1, q2, q3⟩ := d_may hm j h3 h4
  obtain ⟨a1, a2, a3, a4⟩ := fd_may hm i h1 h2
  obtain ⟨b1, b2, b3, b4⟩ := fd_may hm j h3 h4
  rw [e] at a1 a2
  have hA := dA_le b3 b4
  have e1 := end_one hm _ hA.1 hA.2 _ _ _ p2 (Nat.mod_lt _ (by decide)) a1 a2
  have e2 := end_one hm _ hA.1 hA.2 _ _ _ q2 (Nat.mod_lt _ (by decide)) b1 b2
  rw [e1] at e2
  have hcc : dC C i = dC C j := by have := congrArg Prod.fst e2; simp only at this; omega
  have hss : dS C i = dS C j := by have := congrArg Prod.snd e2; simp only at this; omega
  have u := en_may hm (dA i) (!dB i) (dA_le h1 h2).1 (dA_le h1 h2).2
  have v := en_may hm (dA j) (!dB j) (dA_le h3 h4).1 (dA_le h3 h4).2
  have u1 : (C.getD (dC C i) Cr.none).arc (dS C i) = (dA i : Int) := u.2.2.2.1
  have v1 : (C.getD (dC C j) Cr.none).arc (dS C j) = (dA j : Int) := v.2.2.2.1
  have u2 : (C.getD (dC C i) Cr.none).comes (dS C i) = (!dB i) := u.2.2.2.2
  have v2 : (C.getD (dC C j) Cr.none).comes (dS C j) = (!dB j) := v.2.2.2.2
  rw [hcc, hss] at u1 u2
  have h5 : dA i = dA j := by omega
  have h6 : dB i = dB j := by
    rw [u2] at v2
    revert v2
    cases dB i <;> cases dB j <;> simp
  rw [← mk_d h1, ← mk_d h3, h5, h6]
/-- The face of a dart. -/
def fo (C : List Cr) (j : Nat) : Nat := pt (facesM C) j
end Go.Proofs.Ytagaajlbkfkaiaa
/- The walks of slices.Contains of numbers, of the closure that tells an arc's new number, and of drawing.Renumbered with it. -/
namespace Go.Proofs.Ytagaajlbkfkaiaa
open Go.RowKit

/-- Is a number in a list? -/
def hasG (G : List Nat) (v : Int) : Bool := G.any fun g => decide ((g : Int) = v)
theorem hasG_nat (G : List Nat) (v : Nat) : hasG G (v : Int) = decide (v ∈ G) := by
  unfold hasG
  rw [Bool.eq_iff_iff]
  simp only [List.any_eq_true, decide_eq_true_eq]
  exact ⟨fun ⟨x, hx, e⟩ => by have : x = v := by omega
                              exact this ▸ hx, fun h => ⟨v, h, rfl⟩⟩
theorem hasG_neg (G : List Nat) : hasG G (-1) = false := by
  unfold hasG
  rw [List.any_eq_false]
  intro x _
  simp only [decide_eq_true_eq]
  omega

set_option maxHeartbeats 4000000 in
set_option maxRecDepth 100000 in
theorem indexZ_any (b off cap : Nat) (G : List Nat) (v : Int) (w : World) (hm : G.length ≤ 1000) (hbw : b < w.heap.size) (h : ∀ i, i < G.length → w.cell? ⟨b, off + i, none⟩ = some (.int .i64 (G.getD i 0 : Nat))) :
    Calls Try.prog 146 #[.slice (some ⟨b, off, none⟩) G.length cap, .int .i64 v] w fun e w' => ∃ r : Int, e = .returned (.int .i64 r) ∧ decide (0 ≤ r) = hasG G v ∧ Below w.heap.size w w' := by
  have HC : Hid (∀ i, i < G.length → w.cell? ⟨b, off + i, none⟩ = some (.int .i64 (G.getD i 0 : Nat))) := h
  have HB : Hid (Below w.heap.size w w) := Below.refl _ _
  clear h
  obtain ⟨m, hmm⟩ : ∃ m, m = G.length := ⟨_, rfl⟩
  have HMM : Hid (m = G.length) := hmm
  rw [← hmm] at hm HC ⊢
  clear hmm
  go_enter Try.func146, Try.ntmps146
  go_wp2
  go_loopw [8] (fun v8 wr => ∃ i : Nat, i ≤ m ∧ v8 = .int .i64 (i : Nat) ∧ Hid ((∀ k, k < i → (G.getD k 0 : Int) ≠ v) ∧ Below w.heap.size w wr)) (fun v8 _ => m - (intOf v8).toNat)
  case atStart => exact ⟨0, Nat.zero_le _, rfl, ⟨fun k hk => absurd hk (Nat.not_lt_zero _), HB.out⟩⟩
  case round =>
    clear HB
    rename World => W1
    obtain ⟨i, hin, rfl, hp⟩ := hrel
    by_cases hil : i < m
    · have c0 := bcell hp.out.2 hbw (HC.out i hil)
      obtain ⟨x, hx⟩ : ∃ x, G.getD i 0 = x := ⟨_, rfl⟩
      have HX : Hid (G.getD i 0 = x) := hx
      rw [hx] at c0
      clear hx
      by_cases he : v = (x : Int)
      · have heq : (v == (x : Int)) = true := by simp [he]
        have HE : Hid (v = (x : Int)) := he
        clear he
        have HG : Hid (hasG G v = true) := (by
          unfold hasG
          rw [List.any_eq_true]
          refine ⟨G.getD i 0, ?_, by rw [HX.out, HE.out]; simp⟩
          have hl : i < G.length := by have := HMM.out; omega
          rw [List.getD_eq_getElem?_getD, List.getElem?_eq_getElem hl]
          exact List.getElem_mem hl : hasG G v = true)
        go_wp2
        go_ret
        exact ⟨i, rfl, by rw [HG.out]; simp, hp.out.2⟩
      · have heq : (v == (x : Int)) = false := by simp [he]
        have HE : Hid (v ≠ (x : Int)) := he
        clear he
        go_wp2
        go_roundw
        case rel => exact ⟨i + 1, by omega, by go_num, ⟨fun k hk => by
          by_cases e : k = i
          · rw [e, HX.out]; exact fun q => HE.out q.symm
          · exact hp.out.1 k (by omega), hp.out.2⟩⟩
        case measure => simp only [intOf]; omega
    · obtain rfl : i = m := by omega
      have HG : Hid (hasG G v = false) := (by
        unfold hasG
        rw [List.any_eq_false]
        intro y hy
        obtain ⟨j, hj, rfl⟩ := List.getElem_of_mem hy
        have := hp.out.1 j (by have := HMM.out; omega)
        simpa [List.getD_eq_getElem?_getD, hj] using this : hasG G v = false)
      go_wp2
      go_ret
      exact ⟨-1, rfl, by rw [HG.out]; rfl, hp.out.2⟩

set_option maxHeartbeats 4000000 in
set_option maxRecDepth 100000 in
theorem containsG_any (b off cap : Nat) (G : List Nat) (v : Int) (w : World) (hm : G.length ≤ 1000) (hbw : b < w.heap.size) (h : ∀ i, i < G.length → w.cell? ⟨b, off + i, none⟩ = some (.int .i64 (G.getD i 0 : Nat))) :
    Calls Try.prog 133 #[.slice (some ⟨b, off, none⟩) G.length cap, .int .i64 v] w fun e w' => e = .returned (.bool (hasG G v)) ∧ Below w.heap.size w w' := by
  have HI : Hid (Calls Try.prog 146 #[.slice (some ⟨b, off, none⟩) G.length cap, .int .i64 v] w fun e w' => ∃ r : Int, e = .returned (.int .i64 r) ∧ decide (0 ≤ r) = hasG G v ∧ Below w.heap.size w w') := indexZ_any b off cap G v w hm hbw h
  clear h
  go_enter Try.func133, Try.ntmps133
  go_wp2_with (go_at_call 146; refine HI.out.mono ?_; rintro e9 w2 ⟨r, rfl, hr, hb2⟩; refine Hid.out ?_)
  refine Lib.hid ?_
  have HR : Hid (decide (0 ≤ r) = hasG G v) := hr
  have HB2 : Hid (Below w.heap.size w w2) := hb2
  clear hr hb2
  go_wp2
  go_ret
  exact ⟨ret_bool HR.out.symm, HB2.out⟩

/-- The box that holds the numbers, and the numbers. -/
def NumAt (w : World) (gV g N : Nat) (M : List Nat) : Prop := w.heap[gV]? = some (.cells #[.slice (some ⟨g, 0, none⟩) N N] 46 (0, 0)) ∧ g < w.heap.size ∧ ∀ i, i < N → w.cell? ⟨g, i, none⟩ = some (.int .i64 (M.getD i 0 : Nat))
theorem NumAt.on {B : Nat} {w w' : World} {gV g N : Nat} {M : List Nat} (h : NumAt w gV g N M) (hb : Below B w w') (l1 : gV < B) (l2 : g < B) : NumAt w' gV g N M :=
  ⟨(hb.block _ l1).trans h.1, Nat.lt_of_lt_of_le h.2.1 hb.size, fun i hi => bcell hb l2 (h.2.2 i hi)⟩

set_option maxHeartbeats 2000000 in
set_option maxRecDepth 100000 in
theorem withoutNum_any (s x gV g N : Nat) (M : List Nat) (w : World) (hx : x < N) (hA : NumAt w gV g N M) :
    Calls Try.prog 134 #[.int .i64 (s : Nat), .int .i64 (x : Nat), .pointer (some ⟨gV, 0, none⟩)] w fun e w' => e = .returned (.int .i64 (M.getD x 0 : Nat)) ∧ Below w.heap.size w w' := by
  have c0 : w.cell? ⟨gV, 0, none⟩ = some (.slice (some ⟨g, 0, none⟩) N N) := block_cell hA.1 rfl
  have l0 : gV < w.heap.size := (Array.getElem?_eq_some_iff.1 hA.1).1
  have l1 := hA.2.1
  have c1 := hA.2.2 x hx
  clear hA
  go_enter Try.func134, Try.ntmps134
  go_wp2
  go_ret
  exact ⟨rfl, Below.refl _ _⟩

set_option maxHeartbeats 4000000 in
set_option maxRecDepth 100000 in
theorem renumbered_num (x : Cr) (gV gN N : Nat) (M : List Nat) (w : World) (h1 : ∀ k, k < 4 → 0 ≤ x.arc k ∧ x.arc k < (N : Int)) (hX : NumAt w gV gN N M) :
    Calls Try.prog 100 #[.agg #[.int .i64 x.a, .int .i64 x.b, .int .i64 x.c, .int .i64 x.d, .bool x.plus], .func (.func 134) #[] #[.pointer (some ⟨gV, 0, none⟩)]] w fun e w' => e = .returned (.agg #[.int .i64 (M.getD x.a.toNat 0 : Nat), .int .i64 (M.getD x.b.toNat 0 : Nat), .int .i64 (M.getD x.c.toNat 0 : Nat), .int .i64 (M.getD x.d.toNat 0 : Nat), .bool x.plus]) ∧ Below w.heap.size w w' := by
  have HX : Hid (NumAt w gV gN N M) := hX
  have H1 : Hid (∀ k, k < 4 → 0 ≤ x.arc k ∧ x.arc k < (N : Int)) := h1
  have l1 : gV < w.heap.size := (Array.getElem?_eq_some_iff.1 hX.1).1
  have l2 := hX.2.1
  clear h1 hX
  obtain ⟨w0, hw0⟩ : ∃ w0, w0 = ((w.alloc (.cells #[.int .i64 x.a, .int .i64 x.b, .int .i64 x.c, .int .i64 x.d, .bool x.plus] 71)).alloc (.cells #[.int .i64 0, .int .i64 0, .int .i64 0, .int .i64 0, .bool false] 71)).alloc (.cells #[.int .i64 0, .int .i64 0, .int .i64 0, .int .i64 0] 116) := ⟨_, rfl⟩
  have HW0 : Hid (w0 = ((w.alloc (.cells #[.int .i64 x.a, .int .i64 x.b, .int .i64 x.c, .int .i64 x.d, .bool x.plus] 71)).alloc (.cells #[.int .i64 0, .int .i64 0, .int .i64 0, .int .i64 0, .bool false] 71)).alloc (.cells #[.int .i64 0, .int .i64 0, .int .i64 0, .int .i64 0] 116)) := hw0
  have hs0 : w0.heap.size = w.heap.size + 3 := by rw [hw0]; simp
  have HB0 : Hid (Below w.heap.size w w0) := (by rw [hw0]; exact below3 _ _ _ _ : Below w.heap.size w w0)
  have HT0 : Hid (w0.heap[w.heap.size]? = some (.cells #[.int .i64 x.a, .int .i64 x.b, .int .i64 x.c, .int .i64 x.d, .bool x.plus] 71 (0, 0))) := (by rw [hw0]; exact alloc_old (alloc_old (alloc_at rfl)) : w0.heap[w.heap.size]? = some (.cells #[.int .i64 x.a, .int .i64 x.b, .int .i64 x.c, .int .i64 x.d, .bool x.plus] 71 (0, 0)))
  have HT1 : Hid (w0.heap[w.heap.size + 1]? = some (.cells #[.int .i64 0, .int .i64 0, .int .i64 0, .int .i64 0, .bool false] 71 (0, 0))) := (by rw [hw0]; exact alloc_old (alloc_at (by simp)) : w0.heap[w.heap.size + 1]? = some (.cells #[.int .i64 0, .int .i64 0, .int .i64 0, .int .i64 0, .bool false] 71 (0, 0)))
  obtain ⟨g, hg⟩ : ∃ g : Nat → Int, g = fun k => ((M.getD (x.arc k).toNat 0 : Nat) : Int) := ⟨_, rfl⟩
  have HG : Hid (∀ k, ((M.getD (x.arc k).toNat 0 : Nat) : Int) = g k) := fun k => by rw [hg]
  have HT2 : Hid (w0.heap[w.heap.size + 1 + 1]? = some (.cells (intArr (numTo g 0)) 116 (0, 0))) := (by rw [hw0, numTo_zero]; exact alloc_at (by simp) : w0.heap[w.heap.size + 1 + 1]? = some (.cells (intArr (numTo g 0)) 116 (0, 0)))
  have G0 : ((M.getD x.a.toNat 0 : Nat) : Int) = g 0 := by rw [hg]; rfl
  have G1 : ((M.getD x.b.toNat 0 : Nat) : Int) = g 1 := by rw [hg]; rfl
  have G2 : ((M.getD x.c.toNat 0 : Nat) : Int) = g 2 := by rw [hg]; rfl
  have G3 : ((M.getD x.d.toNat 0 : Nat) : Int) = g 3 := by rw [hg]; rfl
  rw [G0, G1, G2, G3]
  clear hw0 hg G0 G1 G2 G3
  go_enter Try.func100, Try.ntmps100
  go_wp2_with (go_at_call 75; rw [← HW0.out]; refine (arcs_any x _).mono ?_; rintro e9 w1 ⟨rfl, hb1⟩; refine Hid.out ?_)
  refine Lib.hid ?_
  have HB1 : Hid (Below w.heap.size w w1) := HB0.out.trans (hb1.mono (by omega))
  have hs1 := hb1.size
  have HA1 : Hid (w1.heap[w.heap.size + 1 + 1]? = some (.cells (intArr (numTo g 0)) 116 (0, 0))) := (hb1.block _ (by omega)).trans HT2.out
  have HC1 : Hid (w1.heap[w.heap.size]? = some (.cells #[.int .i64 x.a, .int .i64 x.b, .int .i64 x.c, .int .i64 x.d, .bool x.plus] 71 (0, 0))) := (hb1.block _ (by omega)).trans HT0.out
  have HR1 : Hid (w1.heap[w.heap.size + 1]? = some (.cells #[.int .i64 0, .int .i64 0, .int .i64 0, .int .i64 0, .bool false] 71 (0, 0))) := (hb1.block _ (by omega)).trans HT1.out
  clear hb1
  go_wp2
  go_loopw [10] (fun v10 wr => ∃ k : Nat, k ≤ 4 ∧ v10 = .int .i64 (k : Nat) ∧ Hid (wr.heap[w.heap.size + 1 + 1]? = some (.cells (intArr (numTo g k)) 116 (0, 0))) ∧ Below (w.heap.size + 1 + 1) w1 wr) (fun v10 _ => 4 - (intOf v10).toNat)
  case atStart => exact ⟨0, Nat.zero_le _, rfl, HA1.out, Below.refl _ _⟩
  case round =>
    rename World => W1
    obtain ⟨k, hk, rfl, hA, hb⟩ := hrel
    have hsz := hb.size
    by_cases hkl : k < 4
    · have hix := index_arr x k hkl
      have HBX : Hid (NumAt W1 gV gN N M) := HX.out.on (HB1.out.trans (hb.mono (by omega))) l1 l2
      obtain ⟨y, hy⟩ : ∃ y : Nat, x.arc k = (y : Int) := ⟨(x.arc k).toNat, by have := (H1.out k hkl).1; omega⟩
      have hyN : y < N := by have := (H1.out k hkl).2; omega
      have HGK : Hid (((M.getD y 0 : Nat) : Int) = g k) := (by rw [← HG.out k, hy]; rfl : ((M.getD y 0 : Nat) : Int) = g k)
      have HN : Hid (numTo g (k + 1) = (numTo g k).set k (g k)) := (numTo_next g k hkl).symm
      rw [hy] at hix
      clear hy
      go_wp2_with (go_at_call 134; refine (withoutNum_any k y gV gN N M _ hyN HBX.out).mono ?_; rw [HGK.out]; rintro e9 w2 ⟨rfl, hb2⟩; refine Hid.out ?_)
      refine Lib.hid ?_
      have HB2 : Hid (Below W1.heap.size W1 w2) := hb2
      have hs2 := hb2.size
      have hA2 : w2.heap[w.heap.size + 1 + 1]? = some (.cells (intArr (numTo g k)) 116 (0, 0)) := (hb2.block _ (by omega)).trans hA.out
      have HA2 : Hid (w2.heap[w.heap.size + 1 + 1]? = some (.cells (intArr (numTo g k)) 116 (0, 0))) := hA2
      have e0 : w2.cell? ⟨w.heap.size + 1 + 1, k, none⟩ = some (.int .i64 ((numTo g k).getD k 0)) := block_cell hA2 (intArr_get _ k (by rw [numTo_len]; exact hkl))
      have z0 : w2.frozen? ⟨w.heap.size + 1 + 1, k, none⟩ = false := block_frozen hA2
      have hlt : w.heap.size + 1 + 1 < w2.heap.size := by omega
      generalize (numTo g k).getD k 0 = u at e0
      clear hb2 hA2
      go_wp2
      go_roundw
      case rel => exact ⟨k + 1, by omega, by go_num, (by rw [HN.out, ← intArr_set]; exact set_block HA2.out : (w2.setCell ⟨w.heap.size + 1 + 1, k, none⟩ (.int .i64 (g k))).heap[w.heap.size + 1 + 1]? = some (.cells (intArr (numTo g (k + 1))) 116 (0, 0))), (hb.trans (HB2.out.mono (by omega))).grown (set_grown w2 (w.heap.size + 1 + 1) k (.int .i64 (g k))) (by omega) (fun q hq => by have := Option.some.inj hq; omega)⟩
      case measure => simp only [intOf]; omega
    · obtain rfl : k = 4 := by omega
      have hA4 := hA.out
      rw [numTo_four] at hA4
      have hC := (hb.block _ (by omega)).trans HC1.out
      have hR := (hb.block _ (by omega)).trans HR1.out
      have HR : Hid (W1.heap[w.heap.size + 1]? = some (.cells #[.int .i64 0, .int .i64 0, .int .i64 0, .int .i64 0, .bool false] 71 (0, 0))) := hR
      have a0 : W1.cell? ⟨w.heap.size + 1 + 1, 0, none⟩ = some (.int .i64 (g 0)) := block_cell hA4 rfl
      have a1 : W1.cell? ⟨w.heap.size + 1 + 1, 1, none⟩ = some (.int .i64 (g 1)) := block_cell hA4 rfl
      have a2 : W1.cell? ⟨w.heap.size + 1 + 1, 2, none⟩ = some (.int .i64 (g 2)) := block_cell hA4 rfl
      have a3 : W1.cell? ⟨w.heap.size + 1 + 1, 3, none⟩ = some (.int .i64 (g 3)) := block_cell hA4 rfl
      have a4 : W1.cell? ⟨w.heap.size, 4, none⟩ = some (.bool x.plus) := block_cell hC rfl
      have hlt : w.heap.size + 1 + 1 < W1.heap.size := by omega
      have HBW : Hid (Below w.heap.size w W1) := HB1.out.trans (hb.mono (by omega))
      clear hA4 hC hR hA hb
      go_wp2_with (go_at_call 122; refine (crossOf_any ⟨(g 0), (g 1), (g 2), (g 3), x.plus⟩ _).mono ?_; rintro e9 w4 ⟨rfl, hb4⟩; refine Hid.out ?_)
      refine Lib.hid ?_
      have HR4 : Hid (w4.heap[w.heap.size + 1]? = some (.cells #[.int .i64 0, .int .i64 0, .int .i64 0, .int .i64 0, .bool false] 71 (0, 0))) := (hb4.block _ (by omega)).trans HR.out
      have HB4 : Hid (Below w.heap.size w w4) := HBW.out.trans (hb4.mono (by omega))
      have hs4 := hb4.size
      clear hb4 a0 a1 a2 a3 a4
      have r0 : w4.cell? ⟨w.heap.size + 1, 0, none⟩ = some (.int .i64 0) := block_cell HR4.out rfl
      have r1 : w4.cell? ⟨w.heap.size + 1, 1, none⟩ = some (.int .i64 0) := block_cell HR4.out rfl
      have r2 : w4.cell? ⟨w.heap.size + 1, 2, none⟩ = some (.int .i64 0) := block_cell HR4.out rfl
      have r3 : w4.cell? ⟨w.heap.size + 1, 3, none⟩ = some (.int .i64 0) := block_cell HR4.out rfl
      have r4 : w4.cell? ⟨w.heap.size + 1, 4, none⟩ = some (.bool false) := block_cell HR4.out rfl
      have f0 : w4.frozen? ⟨w.heap.size + 1, 0, none⟩ = false := block_frozen HR4.out
      have f1 : w4.frozen? ⟨w.heap.size + 1, 1, none⟩ = false := block_frozen HR4.out
      have f2 : w4.frozen? ⟨w.heap.size + 1, 2, none⟩ = false := block_frozen HR4.out
      have f3 : w4.frozen? ⟨w.heap.size + 1, 3, none⟩ = false := block_frozen HR4.out
      have f4 : w4.frozen? ⟨w.heap.size + 1, 4, none⟩ = false := block_frozen HR4.out
      go_wp2
      have hX := set_block (i := 4) (u := .bool x.plus) (set_block (i := 3) (u := .int .i64 (g 3)) (set_block (i := 2) (u := .int .i64 (g 2)) (set_block (i := 1) (u := .int .i64 (g 1)) (set_block (i := 0) (u := .int .i64 (g 0)) HR4.out))))
      have x0 := block_cell (i := 0) (v := .int .i64 (g 0)) hX rfl
      have x1 := block_cell (i := 1) (v := .int .i64 (g 1)) hX rfl
      have x2 := block_cell (i := 2) (v := .int .i64 (g 2)) hX rfl
      have x3 := block_cell (i := 3) (v := .int .i64 (g 3)) hX rfl
      have x4 := block_cell (i := 4) (v := .bool x.plus) hX rfl
      refine bodyPost_ret (v := .agg #[.int .i64 (g 0), .int .i64 (g 1), .int .i64 (g 2), .int .i64 (g 3), .bool x.plus]) (by simp [results, Try.results100, go_sem, x0, x1, x2, x3, x4]) rfl ⟨rfl, ?_⟩
      have hst : ∀ (W : World) (u : Value) (i : Nat), Below w.heap.size w W → Below w.heap.size w (W.setCell ⟨w.heap.size + 1, i, none⟩ u) := fun W u i h => h.grown (set_grown W (w.heap.size + 1) i u) h.size (fun q hq => by have := Option.some.inj hq; omega)
      exact hst _ _ _ (hst _ _ _ (hst _ _ _ (hst _ _ _ (hst _ _ _ HB4.out))))
end Go.Proofs.Ytagaajlbkfkaiaa
/- One operation of a region that draws its order, taken by hand. -/
namespace Go.Proofs.Ytagaajlbkfkaiaa
open Go.RowKit

theorem take_q {P : Program} {md : Region.Mode} {ops : Array Oper} {Q : Exit → Act → World → Prop} {S : World → Prop} {i : Nat} (d : Nat) {oi : Oper} {v : Value} {fuel : Nat} {listed : Array Bool} {ts : Array Value} {ds : List Deferred} {w : World} (hi : ops[i]? = some oi) (hdst : oi.dst = some d)
    (hs : Region.noSelect ops = true) (hf : Region.free md ops listed i = true) (hr : (Region.ready md ops listed).contains i = true) (hq : ∀ x a w', Q (.panic x) (Act.put a oi.dst v) w' → Q (.panic x) a w') (hy : YieldsIf P ops S oi v { tmps := ts, defers := ds }) (hS : S w)
    (h : wpAnyH P md ops Q S fuel (listed.setIfInBounds i true) { tmps := ts.setIfInBounds d v, defers := ds } w) : wpAnyH P md ops Q S (fuel + 1) listed { tmps := ts, defers := ds } w := by
  refine wpAnyH_take hi hs hf hr hq hy hS ?_
  rw [hdst]
  exact h
end Go.Proofs.Ytagaajlbkfkaiaa
/- Moves: the face along a dart, as the dart's iterates. -/
namespace Go.Proofs.Ytagaajlbkfkaiaa

end Go.Proofs.Ytagaajlbkfkaiaa
/- Parts that run the other way round; the walk of ref.within. -/
namespace Go.Proofs.Ytagaajlbkfkaiaa
open Go.RowKit

/-- Does the number stand in the list? -/
def wi (l : List Nat) (z : Int) : Bool := l.any fun y => decide ((y : Int) = z)
theorem wi_yes {l : List Nat} {z : Int} {i : Nat} (hi : i < l.length) (h : ((l.getD i 0 : Nat) : Int) = z) : wi l z = true := by
  simp only [wi, List.any_eq_true, decide_eq_true_eq]
  refine ⟨l.getD i 0, ?_, h⟩
  rw [List.getD_eq_getElem?_getD, List.getElem?_eq_getElem hi]
  exact List.getElem_mem hi
theorem wi_no {l : List Nat} {z : Int} (h : ∀ i, i < l.length → ((l.getD i 0 : Nat) : Int) ≠ z) : wi l z = false := by
  cases hw : wi l z with
  | false => rfl
  | true =>
    simp only [wi, List.any_eq_true, decide_eq_true_eq] at hw
    obtain ⟨y, hy, rfl⟩ := hw
    obtain ⟨i, hi, rfl⟩ := List.getElem_of_mem hy
    have := h i hi
    rw [List.getD_eq_getElem?_getD, List.getElem?_eq_getElem hi] at this
    exact absurd rfl this
theorem wi_iff (l : List Nat) (a : Nat) : wi l (a : Int) = true ↔ a ∈ l := by
  simp only [wi, List.any_eq_true, decide_eq_true_eq]
  constructor
  · rintro ⟨y, hy, h⟩
    have : y = a := by omega
    rw [← this]
    exact hy
  · intro h
    exact ⟨a, h, rfl⟩
set_option maxHeartbeats 2000000 in
set_option maxRecDepth 100000 in
theorem within_any (v : Value) (l : List Nat) (z : Int) (w : World) (hl : l.length ≤ 100) (h1 : Slots w w.heap.size v (nats l)) :
    Calls Try.prog 66 #[v, .int .i64 z] w fun e w' => e = .returned (.bool (wi l z)) ∧ Below w.heap.size w w' := by
  obtain ⟨a1, c1, rfl, g1⟩ := h1
  rw [nats_len] at g1 ⊢
  have HG1 : Hid (0 < l.length → ∃ b off, a1 = some ⟨b, off, none⟩ ∧ b < w.heap.size ∧ ∀ i, i < l.length → w.cell? ⟨b, off + i, none⟩ = some ((nats l).getD i (.bool false))) := g1
  have HV : Hid (∀ i, i < l.length → (nats l).getD i (.bool false) = .int .i64 (l.getD i 0 : Nat)) := fun i hi => by rw [List.getD_eq_getElem?_getD, nats_get l i hi]; rfl
  clear g1
  go_enter Try.func66, Try.ntmps66
  go_wp2
  go_loopw [5] (fun v5 wr => ∃ k : Nat, k ≤ l.length ∧ v5 = .int .i64 k ∧ Hid (∀ j, j < k → ((l.getD j 0 : Nat) : Int) ≠ z) ∧ Below w.heap.size w wr) (fun v5 _ => l.length - (intOf v5).toNat)
  case atStart => exact ⟨0, Nat.zero_le _, rfl, fun j hj => absurd hj (Nat.not_lt_zero _), Below.refl _ _⟩
  case round =>
    obtain ⟨k, hk, rfl, hno, hb⟩ := hrel
    by_cases hlt : k < l.length
    · obtain ⟨b1, o1, rfl, hb1, q1⟩ := HG1.out (by omega)
      have p1 := bcell hb hb1 (q1 k hlt)
      rw [HV.out k hlt] at p1
      obtain ⟨y, hy⟩ : ∃ y, l.getD k 0 = y := ⟨_, rfl⟩
      rw [hy] at p1
      have HY : Hid (l.getD k 0 = y) := hy
      have hsz := hb.size
      have hbw : b1 < wr.heap.size := by omega
      clear q1 hy
      by_cases hz : (y : Int) = z
      · have hd : ((y : Int) == z) = true := by simpa using hz
        have HW : Hid (wi l z = true) := wi_yes hlt (by rw [HY.out]; exact hz)
        go_wp2
        go_ret
        exact ⟨ret_bool HW.out, hb⟩
      · have hd : ((y : Int) == z) = false := by rw [beq_eq_false_iff_ne]; exact hz
        go_wp2
        go_roundw
        case rel =>
          refine ⟨k + 1, by omega, by go_num, fun j hj => ?_, hb⟩
          by_cases e : j = k
          · rw [e, HY.out]; exact hz
          · exact hno.out j (by omega)
        case measure => simp [intOf]; omega
    · obtain rfl : k = l.length := by omega
      have HW : Hid (wi l z = false) := wi_no (fun j hj => hno.out j hj)
      go_wp2
      go_ret
      exact ⟨ret_bool HW.out, hb⟩
end Go.Proofs.Ytagaajlbkfkaiaa
/- Plain mathematics: the walks along a renaming begin each at the lowest of its ring: there are as many as rings. -/
namespace Go.Proofs.Ytagaajlbkfkaiaa

def up0 (f : Nat → Nat) (x : Nat) : Nat := if x = 0 then 0 else f x
theorem up0_pos (f : Nat → Nat) {x : Nat} (h : 1 ≤ x) : up0 f x = f x := by unfold up0; rw [if_neg (by omega)]
theorem bij_up0 {f : Nat → Nat} {n : Nat} (hf : ∀ a, 1 ≤ a → a ≤ n → 1 ≤ f a ∧ f a ≤ n) (hi : ∀ a b, 1 ≤ a → a ≤ n → 1 ≤ b → b ≤ n → f a = f b → a = b) : Bij (up0 f) (n + 1) := by
  refine ⟨fun x hx => ?_, fun x y hx hy e => ?_⟩
  · by_cases h : x = 0
    · rw [h]; exact Nat.succ_pos n
    · rw [up0_pos f (by omega)]; have := hf x (by omega) (by omega); omega
  · by_cases h : x = 0
    · by_cases g : y = 0
      · omega
      · rw [h, up0_pos f (show 1 ≤ y by omega)] at e
        have := hf y (by omega) (by omega)
        have e0 : up0 f 0 = 0 := rfl
        omega
    · by_cases g : y = 0
      · rw [g, up0_pos f (show 1 ≤ x by omega)] at e
        have := hf x (by omega) (by omega)
        have e0 : up0 f 0 = 0 := rfl
        omega
      · rw [up0_pos f (show 1 ≤ x by omega), up0_pos f (show 1 ≤ y by omega)] at e
        exact hi x y (by omega) (by omega) (by omega) (by omega) e
theorem walkF_head (f : Nat → Nat) : ∀ (m : Nat) (seen : List Bool) (x z : Nat) (acc : List Nat), (walkF f m seen x (z :: acc)).1.getD 0 0 = z ∧ (walkF f m seen x (z :: acc)).1 ≠ [] := by
  intro m
  induction m with
  | zero => intro seen x z acc; exact ⟨rfl, by simp [walkF]⟩
  | succ m ih =>
    intro seen x z acc
    simp only [walkF]
    split
    · exact ⟨rfl, by simp⟩
    · exact ih _ _ z (acc ++ [x])
theorem walkF_new (f : Nat → Nat) (m : Nat) (seen : List Bool) (x : Nat) (h : un seen x = 1) : (walkF f (m + 1) seen x []).1.getD 0 0 = x ∧ (walkF f (m + 1) seen x []).1 ≠ [] := by
  have h1 : ¬ seen.getD x true = true := fun q => by unfold un at h; rw [if_pos q] at h; omega
  simp only [walkF]
  rw [if_neg h1]
  exact walkF_head f m _ _ x []
theorem un_seen {seen : List Bool} {x : Nat} (h : un seen x = 0) : seen.getD x true = true := by
  refine Classical.byContradiction fun q => ?_
  unfold un at h
  rw [if_neg q] at h
  omega
theorem seen_in {f : Nat → Nat} {n a y : Nat} (h1 : 1 ≤ y) (h2 : y ≤ n) : un (walksTo f n a).2 y = 0 ↔ ∃ l, l ∈ (walksTo f n a).1 ∧ y ∈ l := by
  have h := walksTo_one f n a y h1 h2
  have hc : 1 ≤ (walksTo f n a).1.flatten.count y ↔ ∃ l, l ∈ (walksTo f n a).1 ∧ y ∈ l := by rw [List.one_le_count_iff, List.mem_flatten]
  rw [← hc]
  omega
theorem zero_apart {f : Nat → Nat} {n : Nat} (hf : ∀ a, 1 ≤ a → a ≤ n → 1 ≤ f a ∧ f a ≤ n) {x : Nat} (hx : 1 ≤ x) : ¬ Con (eds (up0 f) (n + 1)) x 0 := fun hc => by
  have := hc (fun z => 1 ≤ z) (closed_eds.2 fun i hi => by
    by_cases h : i = 0
    · subst h; exact Iff.rfl
    · rw [up0_pos f (by omega)]
      have := (hf i (by omega) (by omega)).1
      exact ⟨fun _ => this, fun _ => by omega⟩) hx
  exact absurd this (by decide)
/-- The seen are whole rings. -/
theorem seen_closed {f : Nat → Nat} {n : Nat} (hf : ∀ a, 1 ≤ a → a ≤ n → 1 ≤ f a ∧ f a ≤ n) (hi : ∀ a b, 1 ≤ a → a ≤ n → 1 ≤ b → b ≤ n → f a = f b → a = b) (a : Nat) (ha : a ≤ n) : Closed (eds (up0 f) (n + 1)) fun z => 1 ≤ z ∧ un (walksTo f n a).2 z = 0 := by
  obtain ⟨r1, r2, -⟩ := rings_closed hf hi a ha
  refine closed_eds.2 fun i hin => ?_
  by_cases h : i = 0
  · subst h; exact Iff.rfl
  · rw [up0_pos f (by omega)]
    have hfi := hf i (by omega) (by omega)
    constructor
    · rintro ⟨h1, h2⟩
      obtain ⟨l, hl, hy⟩ := (seen_in h1 (by omega)).1 h2
      exact ⟨hfi.1, (seen_in hfi.1 hfi.2).2 ⟨l, hl, r1 l hl i hy⟩⟩
    · rintro ⟨-, h2⟩
      exact ⟨by omega, r2 i (by omega) (by omega) h2⟩
/-- A walk's arcs are joined to its first. -/
theorem ring_con {f : Nat → Nat} {n : Nat} {l : List Nat} (hm : ∀ y, y ∈ l → 1 ≤ y ∧ y ≤ n) (hc : ∀ i, i + 1 < l.length → l.getD (i + 1) 0 = f (l.getD i 0)) : ∀ i, i < l.length → Con (eds (up0 f) (n + 1)) (l.getD 0 0) (l.getD i 0) := by
  intro i
  induction i with
  | zero => intro _; exact Con.refl _ _
  | succ i ih =>
    intro hi
    have hb := hm _ (at_mem (l := l) (i := i) (by omega))
    have h1 := con_f (f := up0 f) (M := n + 1) (x := l.getD i 0) (by omega)
    rw [up0_pos f hb.1, ← hc i hi] at h1
    exact (ih (by omega)).trans h1
theorem heads_roots {f : Nat → Nat} {n : Nat} (hf : ∀ a, 1 ≤ a → a ≤ n → 1 ≤ f a ∧ f a ≤ n) (hi : ∀ a b, 1 ≤ a → a ≤ n → 1 ≤ b → b ≤ n → f a = f b → a = b) : ∀ a, a ≤ n →
    (∀ l, l ∈ (walksTo f n a).1 → 1 ≤ l.getD 0 0 ∧ l.getD 0 0 ≤ a) ∧
    ∀ Q : Nat → Bool, Q 0 = false → (walksTo f n a).1.countP (fun l => Q (l.getD 0 0)) = rq (cyW (up0 f) (n + 1)) Q (a + 1) := by
  have hB := bij_up0 hf hi
  have hW := cyW_least hB.lt
  intro a
  induction a with
  | zero =>
    intro _
    refine ⟨fun l hl => absurd hl (by simp [walksTo]), fun Q q0 => ?_⟩
    simp [walksTo, rq, q0]
  | succ a ih =>
    intro ha
    obtain ⟨i1, i2⟩ := ih (by omega)
    have hcl := seen_closed hf hi a (by omega)
    have hin := walksTo_mem hf a (by omega)
    obtain ⟨-, -, r3⟩ := rings_closed hf hi a (by omega)
    by_cases hs : un (walksTo f n a).2 (a + 1) = 0
    · have e : walksTo f n (a + 1) = walksTo f n a := by
        simp only [walksTo]
        rw [walkF_seen (un_seen hs)]
        rfl
      rw [e]
      refine ⟨fun l hl => ⟨(i1 l hl).1, by have := (i1 l hl).2; omega⟩, fun Q q0 => ?_⟩
      rw [i2 Q q0]
      have hnr : (cyW (up0 f) (n + 1)).getD (a + 1) 0 ≠ a + 1 := fun q => by
        obtain ⟨l, hl, hy⟩ := (seen_in (by omega) ha).1 hs
        obtain ⟨i, hil, ei⟩ := mem_atZ hy
        have hc := ring_con (f := f) (n := n) (hin l hl).2.2 (r3 l hl).1 i hil
        rw [ei] at hc
        have := (hW.2 (a + 1) (by omega)).2 _ hc.symm
        have := (i1 l hl).2
        omega
      show _ = rq (cyW (up0 f) (n + 1)) Q (a + 1) + (if (cyW (up0 f) (n + 1)).getD (a + 1) 0 = a + 1 ∧ Q (a + 1) = true then 1 else 0)
      rw [if_neg fun q => hnr q.1]
      rfl
    · have hs1 : un (walksTo f n a).2 (a + 1) = 1 := by have := un_le (walksTo f n a).2 (a + 1); omega
      obtain ⟨hh, hne⟩ := walkF_new f n (walksTo f n a).2 (a + 1) hs1
      have e : (walksTo f n (a + 1)).1 = (walksTo f n a).1 ++ [(walkF f (n + 1) (walksTo f n a).2 (a + 1) []).1] := by
        simp only [walksTo]
        rw [if_neg hne]
      rw [e]
      refine ⟨fun l hl => ?_, fun Q q0 => ?_⟩
      · rcases List.mem_append.1 hl with h | h
        · exact ⟨(i1 l h).1, by have := (i1 l h).2; omega⟩
        · rw [List.mem_singleton.1 h, hh]; omega
      · have hr : (cyW (up0 f) (n + 1)).getD (a + 1) 0 = a + 1 := by
          refine Classical.byContradiction fun q => ?_
          have hle := hW.le (v := a + 1) (by omega)
          have hcn := (hW.2 (a + 1) (by omega)).1
          generalize hu : (cyW (up0 f) (n + 1)).getD (a + 1) 0 = u at q hle hcn
          by_cases h0 : u = 0
          · rw [h0] at hcn
            exact zero_apart hf (by omega) hcn
          · have := hcn.symm _ hcl ⟨by omega, walksTo_seen f n a u (by omega) (by omega)⟩
            exact hs this.2
        rw [List.countP_append, i2 Q q0]
        show _ = rq (cyW (up0 f) (n + 1)) Q (a + 1) + (if (cyW (up0 f) (n + 1)).getD (a + 1) 0 = a + 1 ∧ Q (a + 1) = true then 1 else 0)
        rw [List.countP_singleton, hh]
        by_cases hq : Q (a + 1) = true
        · rw [if_pos hq, if_pos ⟨hr, hq⟩]
        · rw [if_neg hq, if_neg fun q => hq q.2]
/-- As many walks among some as rings. -/
theorem walks_cyN {f : Nat → Nat} {n : Nat} (hf : ∀ a, 1 ≤ a → a ≤ n → 1 ≤ f a ∧ f a ≤ n) (hi : ∀ a b, 1 ≤ a → a ≤ n → 1 ≤ b → b ≤ n → f a = f b → a = b) (Q : Nat → Bool) (q0 : Q 0 = false) : (walksTo f n n).1.countP (fun l => Q (l.getD 0 0)) = cyN (up0 f) (n + 1) Q := (heads_roots hf hi n (Nat.le_refl _)).2 Q q0
end Go.Proofs.Ytagaajlbkfkaiaa
