/- Several texts of the proof, one behind the other. -/
import Derived.Test.YthlmkoiilgjflaaW7P
import Derived.Test.YthlmkoiilgjflaaEnds
/- Slices that are read; lists of numbers that stand in a function's values; which walk an arc lies in. -/
namespace Go.Proofs.Ythlmkoiilgjflaa
open Go.RowKit

/-- A slice to be read: nil; with no element; or its cells lie there, below B. -/
def RdAt (w : World) (B size : Nat) (v : Value) (n : Nat) (xs : List Value) : Prop := ∃ a cap, v = .slice a n cap ∧ (0 < n → ∃ b off, a = some ⟨b, off, none⟩ ∧ b < B ∧ ∀ j, j < n * size → w.cell? ⟨b, off + j, none⟩ = xs[j]?)
theorem RdAt.on {w w' : World} {B size n : Nat} {v : Value} {xs : List Value} (h : RdAt w B size v n xs) (hb : Below B w w') : RdAt w' B size v n xs := by
  obtain ⟨a, cap, rfl, f⟩ := h
  refine ⟨a, cap, rfl, fun h0 => ?_⟩
  obtain ⟨b, off, rfl, hlt, hc⟩ := f h0
  exact ⟨b, off, rfl, hlt, fun j hj => bcell hb hlt (hc j hj)⟩
theorem RdAt.mono {w : World} {B B' size n : Nat} {v : Value} {xs : List Value} (h : RdAt w B size v n xs) (hB : B ≤ B') : RdAt w B' size v n xs := by
  obtain ⟨a, cap, rfl, f⟩ := h
  refine ⟨a, cap, rfl, fun h0 => ?_⟩
  obtain ⟨b, off, rfl, hlt, hc⟩ := f h0
  exact ⟨b, off, rfl, Nat.lt_of_lt_of_le hlt hB, hc⟩
theorem own_rd {w : World} {B e size n : Nat} {v : Value} {xs : List Value} (h : w.ownsRow B e size v n xs) : RdAt w w.heap.size size v n xs := by
  have h0 := h
  rcases h.2 with ⟨rfl, h1⟩ | ⟨g, cap, cur, rfl, _, _, _⟩
  · exact ⟨none, 0, by rw [h1], fun hp => by omega⟩
  · exact ⟨some ⟨g, 0, none⟩, cap, rfl, fun _ => ⟨g, 0, rfl, (h0.lt g rfl).2, fun j hj => by rw [Nat.zero_add]; exact h0.cellAt j hj⟩⟩
/-- Lists of numbers to be read. -/
def NatsRd (w : World) (B : Nat) (v : Value) (L : List (List Nat)) : Prop := ∃ ys : List Value, ys.length = L.length ∧ RdAt w B 1 v L.length ys ∧ ∀ j, j < L.length → RdAt w B 1 (ys.getD j (.bool false)) (L.getD j []).length (nats (L.getD j []))
theorem NatsRd.on {w w' : World} {B : Nat} {v : Value} {L : List (List Nat)} (h : NatsRd w B v L) (hb : Below B w w') : NatsRd w' B v L := by
  obtain ⟨ys, hy, h1, h2⟩ := h
  exact ⟨ys, hy, h1.on hb, fun j hj => (h2 j hj).on hb⟩
theorem NatsRd.mono {w : World} {B B' : Nat} {v : Value} {L : List (List Nat)} (h : NatsRd w B v L) (hB : B ≤ B') : NatsRd w B' v L := by
  obtain ⟨ys, hy, h1, h2⟩ := h
  exact ⟨ys, hy, h1.mono hB, fun j hj => (h2 j hj).mono hB⟩
theorem NatsRd.up {w w' : World} {v : Value} {L : List (List Nat)} (h : NatsRd w w.heap.size v L) (hb : Below w.heap.size w w') : NatsRd w' w'.heap.size v L := (h.on hb).mono hb.size
theorem NatsOwn.rd {w : World} {B : Nat} {v : Value} {L : List (List Nat)} (h : NatsOwn w B v L) : NatsRd w w.heap.size v L := by
  obtain ⟨ys, hy, h1, h2⟩ := h
  exact ⟨ys, hy, by rw [← hy]; exact own_rd h1, fun j hj => own_rd (h2 j hj)⟩
theorem NatsRd.len {w : World} {B : Nat} {v : Value} {L : List (List Nat)} (h : NatsRd w B v L) : ∃ a cap, v = .slice a L.length cap := by
  obtain ⟨ys, hy, ⟨a, cap, e, -⟩, h2⟩ := h
  exact ⟨a, cap, e⟩
/-- The row j, and where it stands. -/
theorem NatsRd.row {w : World} {B : Nat} {a : Option Addr} {cap : Nat} {L : List (List Nat)} (h : NatsRd w B (.slice a L.length cap) L) (j : Nat) (hj : j < L.length) :
    ∃ b off ar cr, a = some ⟨b, off, none⟩ ∧ b < B ∧ w.cell? ⟨b, off + j, none⟩ = some (.slice ar (L.getD j []).length cr) ∧ RdAt w B 1 (.slice ar (L.getD j []).length cr) (L.getD j []).length (nats (L.getD j [])) := by
  obtain ⟨ys, hy, ⟨a', cap', e, f⟩, h2⟩ := h
  injection e with e1 e2 e3
  obtain ⟨b, off, eb, hlt, hc⟩ := f (by omega)
  have hr := h2 j hj
  obtain ⟨ar, cr, er, -⟩ := hr
  have hr := h2 j hj
  rw [er] at hr
  refine ⟨b, off, ar, cr, e1.trans eb, hlt, ?_, hr⟩
  rw [hc j (by omega), ← er]
  simp [List.getD, hy, hj]
theorem RdAt.nat {w : World} {B : Nat} {a : Option Addr} {cap : Nat} {l : List Nat} (h : RdAt w B 1 (.slice a l.length cap) l.length (nats l)) (k : Nat) (hk : k < l.length) :
    ∃ b off, a = some ⟨b, off, none⟩ ∧ b < B ∧ w.cell? ⟨b, off + k, none⟩ = some (.int .i64 (l.getD k 0 : Nat)) := by
  obtain ⟨a', cap', e, f⟩ := h
  injection e with e1 e2 e3
  obtain ⟨b, off, eb, hlt, hc⟩ := f (by omega)
  exact ⟨b, off, e1.trans eb, hlt, (hc k (by omega)).trans (nats_get l k hk)⟩

/-- A function's values, as a list. -/
def mapI (m : Nat) (f : Nat → Int) : List Int := (List.range m).map f
theorem mapI_len (m : Nat) (f : Nat → Int) : (mapI m f).length = m := by simp [mapI]
theorem mapI_get (m : Nat) (f : Nat → Int) (i : Nat) (h : i < m) : (mapI m f)[i]? = some (f i) := by simp [mapI, h]
theorem mapI_at (m : Nat) (f : Nat → Int) (i : Nat) (h : i < m) : (mapI m f).getD i 0 = f i := by rw [List.getD_eq_getElem?_getD, mapI_get m f i h]; rfl
theorem mapI_set (m : Nat) (f g : Nat → Int) (i : Nat) (x : Int) (h : ∀ j, j < m → g j = if j = i then x else f j) : (mapI m f).set i x = mapI m g := by
  apply List.ext_getElem?
  intro j
  by_cases hj : j < m
  · rw [mapI_get m g j hj, h j hj, List.getElem?_set]
    by_cases e : i = j
    · subst e; simp [mapI_len, hj]
    · rw [if_neg e, if_neg (fun h => e h.symm), mapI_get m f j hj]
  · rw [List.getElem?_eq_none (by simp [mapI_len]; omega), List.getElem?_eq_none (by simp [mapI_len]; omega)]
theorem mapI_zero (m : Nat) (f : Nat → Int) (h : ∀ j, j < m → f j = 0) : mapI m f = List.replicate m 0 := by
  apply List.ext_getElem?
  intro j
  by_cases hj : j < m
  · rw [mapI_get m f j hj, h j hj]; simp [hj]
  · rw [List.getElem?_eq_none (by simp [mapI_len]; omega), List.getElem?_eq_none (by simp; omega)]
theorem mapI_congr (m : Nat) (f g : Nat → Int) (h : ∀ j, j < m → f j = g j) : mapI m f = mapI m g := List.map_congr_left fun j hj => h j (List.mem_range.1 hj)

/-- All numbers of the first i rows, and the first k of row i. -/
def upN (L : List (List Nat)) (i k : Nat) : List Nat := (L.take i).flatten ++ (L.getD i []).take k
theorem upN_zero (L : List (List Nat)) : upN L 0 0 = [] := by simp [upN]
theorem upN_row (L : List (List Nat)) (j : Nat) (h : j < L.length) : upN L j (L.getD j []).length = upN L (j + 1) 0 := by
  unfold upN
  rw [List.take_length, List.take_succ_eq_append_getElem h, List.flatten_append, List.getD_eq_getElem?_getD]
  simp [h]
theorem upN_next (L : List (List Nat)) (j k : Nat) (h : k < (L.getD j []).length) : upN L j (k + 1) = upN L j k ++ [(L.getD j []).getD k 0] := by
  unfold upN
  rw [List.take_succ_eq_append_getElem h, ← List.append_assoc]
  congr 2
  rw [List.getD_eq_getElem?_getD (l := L.getD j []), List.getElem?_eq_getElem h]
  rfl
theorem upN_all (L : List (List Nat)) : upN L L.length 0 = L.flatten := by simp [upN]
/-- In which row a number lies. -/
def pt (L : List (List Nat)) (a : Nat) : Nat := L.findIdx fun l => decide (a ∈ l)
theorem two_rows (a : Nat) : ∀ (L : List (List Nat)) (i j : Nat), i < j → j < L.length → a ∈ L.getD i [] → a ∈ L.getD j [] → 2 ≤ L.flatten.count a
  | [], i, j, _, h, _, _ => absurd h (by simp)
  | x :: t, 0, j + 1, _, hj, h1, h2 => by
    have h3 : 1 ≤ x.count a := List.one_le_count_iff.2 (by simpa using h1)
    have hj' : j < t.length := by simpa using hj
    have h4 : a ∈ t.flatten := by
      refine List.mem_flatten.2 ⟨t.getD j [], ?_, by simpa using h2⟩
      rw [List.getD_eq_getElem?_getD, List.getElem?_eq_getElem hj']
      exact List.getElem_mem hj'
    have h5 : 1 ≤ t.flatten.count a := List.one_le_count_iff.2 h4
    rw [List.flatten_cons, List.count_append]
    omega
  | x :: t, i + 1, j + 1, hij, hj, h1, h2 => by
    have := two_rows a t i j (by omega) (by simpa using hj) (by simpa using h1) (by simpa using h2)
    rw [List.flatten_cons, List.count_append]
    omega
theorem pt_is {L : List (List Nat)} {a i : Nat} (h1 : L.flatten.count a = 1) (hi : i < L.length) (ha : a ∈ L.getD i []) : pt L a = i := by
  have hle : pt L a ≤ i := by
    refine Classical.byContradiction fun hc => ?_
    have := List.not_of_lt_findIdx (p := fun l => decide (a ∈ l)) (xs := L) (i := i) (by unfold pt at hc; omega)
    rw [List.getD_eq_getElem?_getD, List.getElem?_eq_getElem hi] at ha
    simp at this
    exact this (by simpa using ha)
  rcases Nat.lt_or_ge (pt L a) i with h | h
  · have hl : pt L a < L.length := by omega
    have hm := List.findIdx_getElem (p := fun l => decide (a ∈ l)) (xs := L) (w := hl)
    have hm2 : a ∈ L.getD (pt L a) [] := by
      rw [List.getD_eq_getElem?_getD, List.getElem?_eq_getElem hl]
      exact of_decide_eq_true hm
    have := two_rows a L (pt L a) i h hi hm2 ha
    omega
  · omega
theorem pt_lt {L : List (List Nat)} {a : Nat} (h1 : L.flatten.count a = 1) : pt L a < L.length := by
  have : a ∈ L.flatten := List.one_le_count_iff.1 (by omega)
  obtain ⟨l, hl, ha⟩ := List.mem_flatten.1 this
  exact List.findIdx_lt_length_of_exists ⟨l, hl, by simpa using ha⟩
theorem pt_mem {L : List (List Nat)} {a i : Nat} (h1 : L.flatten.count a = 1) (hi : i < L.length) : a ∈ L.getD i [] ↔ pt L a = i := by
  constructor
  · exact pt_is h1 hi
  · intro e
    have hl : pt L a < L.length := by omega
    have hm := List.findIdx_getElem (p := fun l => decide (a ∈ l)) (xs := L) (w := hl)
    rw [← e, List.getD_eq_getElem?_getD, List.getElem?_eq_getElem hl]
    exact of_decide_eq_true hm
/-- The rows' numbers, painted so far. -/
def paint (L : List (List Nat)) (i k a : Nat) : Int := if a ∈ upN L i k then (pt L a : Int) else 0
theorem paint_next (L : List (List Nat)) (m i k : Nat) (h1 : ∀ a, a ∈ L.flatten → L.flatten.count a = 1) (hi : i < L.length) (hk : k < (L.getD i []).length) : (mapI m (paint L i k)).set ((L.getD i []).getD k 0) (i : Int) = mapI m (paint L i (k + 1)) := by
  have hmem : (L.getD i []).getD k 0 ∈ L.getD i [] := by
    rw [List.getD_eq_getElem?_getD (l := L.getD i []), List.getElem?_eq_getElem hk]
    exact List.getElem_mem hk
  have hfl : (L.getD i []).getD k 0 ∈ L.flatten := by
    refine List.mem_flatten.2 ⟨L.getD i [], ?_, hmem⟩
    rw [List.getD_eq_getElem?_getD, List.getElem?_eq_getElem hi]
    exact List.getElem_mem hi
  have hp := pt_is (h1 _ hfl) hi hmem
  refine mapI_set _ _ _ _ _ fun j _ => ?_
  unfold paint
  rw [upN_next L i k hk]
  by_cases e : j = (L.getD i []).getD k 0
  · rw [if_pos e, e, if_pos (by simp), hp]
  · rw [if_neg e]
    simp only [List.mem_append, List.mem_singleton]
    by_cases h : j ∈ upN L i k
    · rw [if_pos h, if_pos (Or.inl h)]
    · rw [if_neg h, if_neg (fun hh => hh.elim h e)]
end Go.Proofs.Ythlmkoiilgjflaa
/- Plain mathematics: what edges join; labels that are levelled along edges, round by round, come to the least of what is joined. -/
namespace Go.Proofs.Ythlmkoiilgjflaa

def Closed (E : List (Nat × Nat)) (S : Nat → Prop) : Prop := ∀ e, e ∈ E → (S e.1 ↔ S e.2)
/-- Joined by edges. -/
def Con (E : List (Nat × Nat)) (x y : Nat) : Prop := ∀ S, Closed E S → S x → S y
theorem Con.refl (E : List (Nat × Nat)) (x : Nat) : Con E x x := fun _ _ h => h
theorem Con.trans {E : List (Nat × Nat)} {x y z : Nat} (h : Con E x y) (g : Con E y z) : Con E x z := fun S hS hx => g S hS (h S hS hx)
theorem Con.symm {E : List (Nat × Nat)} {x y : Nat} (h : Con E x y) : Con E y x := fun S hS hy =>
  Classical.byContradiction fun hx => h (fun z => ¬ S z) (fun e he => not_congr (hS e he)) hx hy
theorem Con.edge {E : List (Nat × Nat)} {x y : Nat} (h : (x, y) ∈ E) : Con E x y := fun _ hS hx => (hS (x, y) h).1 hx
theorem con_min (E : List (Nat × Nat)) (v : Nat) : ∃ m, Con E v m ∧ ∀ u, Con E v u → m ≤ u := by
  have key : ∀ k x, x ≤ k → Con E v x → ∃ m, Con E v m ∧ ∀ u, Con E v u → m ≤ u := by
    intro k
    induction k with
    | zero => intro x hx h; exact ⟨x, h, fun u _ => by omega⟩
    | succ k ih =>
      intro x hx h
      by_cases hs : ∃ y, y < x ∧ Con E v y
      · obtain ⟨y, hy, hc⟩ := hs
        exact ih y (by omega) hc
      · exact ⟨x, h, fun u hu => Nat.le_of_not_lt fun hlt => hs ⟨u, hlt, hu⟩⟩
  exact key v v (Nat.le_refl _) (Con.refl E v)

/-- One edge levelled. -/
def lev (W : List Nat) (x y : Nat) : List Nat := if W.getD x 0 < W.getD y 0 then W.set y (W.getD x 0) else W.set x (W.getD y 0)
theorem lev_len (W : List Nat) (x y : Nat) : (lev W x y).length = W.length := by unfold lev; split <;> simp
theorem getD_set (W : List Nat) (i v z : Nat) (hi : i < W.length) : (W.set i z).getD v 0 = if v = i then z else W.getD v 0 := by
  simp only [List.getD_eq_getElem?_getD, List.getElem?_set]
  by_cases h : i = v
  · subst h; simp [hi]
  · simp [h, Ne.symm h]
/-- Labels under way: none greater than its place, and of what is joined to it. -/
structure Lab (E : List (Nat × Nat)) (n : Nat) (W : List Nat) : Prop where
  len : W.length = n
  le : ∀ v, v < n → W.getD v 0 ≤ v
  con : ∀ v, v < n → Con E v (W.getD v 0)
theorem lev_at {W : List Nat} {x y v : Nat} (hx : x < W.length) (hy : y < W.length) : (lev W x y).getD v 0 ≤ W.getD v 0 ∧ ((lev W x y).getD v 0 = W.getD v 0 ∨ (v = x ∧ (lev W x y).getD v 0 = W.getD y 0) ∨ (v = y ∧ (lev W x y).getD v 0 = W.getD x 0)) := by
  unfold lev
  split
  · rw [getD_set _ _ _ _ hy]
    split
    · subst v; exact ⟨by omega, Or.inr (Or.inr ⟨rfl, rfl⟩)⟩
    · exact ⟨Nat.le_refl _, Or.inl rfl⟩
  · rw [getD_set _ _ _ _ hx]
    split
    · subst v; exact ⟨by omega, Or.inr (Or.inl ⟨rfl, rfl⟩)⟩
    · exact ⟨Nat.le_refl _, Or.inl rfl⟩
theorem lev_both {W : List Nat} {x y : Nat} (hx : x < W.length) (hy : y < W.length) : (lev W x y).getD x 0 ≤ W.getD y 0 ∧ (lev W x y).getD y 0 ≤ W.getD x 0 := by
  unfold lev
  split
  · rename_i h
    rw [getD_set _ _ _ _ hy, getD_set _ _ _ _ hy, if_pos rfl]
    refine ⟨?_, Nat.le_refl _⟩
    split <;> omega
  · rename_i h
    rw [getD_set _ _ _ _ hx, getD_set _ _ _ _ hx, if_pos rfl]
    refine ⟨Nat.le_refl _, ?_⟩
    split <;> omega
theorem Lab.lev {E : List (Nat × Nat)} {n : Nat} {W : List Nat} (h : Lab E n W) {x y : Nat} (hx : x < n) (hy : y < n) (he : Con E x y) : Lab E n (lev W x y) := by
  have hl := h.len
  refine ⟨by rw [lev_len, hl], fun v hv => ?_, fun v hv => ?_⟩
  · have := (lev_at (W := W) (x := x) (y := y) (v := v) (by omega) (by omega)).1
    have := h.le v hv
    omega
  · rcases (lev_at (W := W) (x := x) (y := y) (v := v) (by omega) (by omega)).2 with e | ⟨hvx, e⟩ | ⟨hvy, e⟩
    · rw [e]; exact h.con v hv
    · rw [e, hvx]; exact he.trans (h.con y hy)
    · rw [e, hvy]; exact he.symm.trans (h.con x hx)
/-- Levelled along edges, one behind the other. -/
def levs (W : List Nat) : List (Nat × Nat) → List Nat
  | [] => W
  | e :: E => levs (lev W e.1 e.2) E
theorem levs_app (W : List Nat) (E F : List (Nat × Nat)) : levs W (E ++ F) = levs (levs W E) F := by
  induction E generalizing W with
  | nil => rfl
  | cons e E ih => exact ih _
def Done (E : List (Nat × Nat)) (W : List Nat) (v : Nat) : Prop := ∀ u, Con E v u → W.getD v 0 ≤ u
theorem levs_lab {E : List (Nat × Nat)} {n : Nat} (F : List (Nat × Nat)) (hF : ∀ e, e ∈ F → e.1 < n ∧ e.2 < n ∧ Con E e.1 e.2) : ∀ W, Lab E n W → Lab E n (levs W F) ∧ ∀ v, (levs W F).getD v 0 ≤ W.getD v 0 := by
  induction F with
  | nil => intro W h; exact ⟨h, fun v => Nat.le_refl _⟩
  | cons e F ih =>
    intro W h
    obtain ⟨h1, h2, h3⟩ := hF e (List.Mem.head _)
    have hl := h.len
    have h' := h.lev h1 h2 h3
    obtain ⟨g1, g2⟩ := ih (fun e' he' => hF e' (List.Mem.tail _ he')) _ h'
    exact ⟨g1, fun v => Nat.le_trans (g2 v) (lev_at (by omega) (by omega)).1⟩
/-- Where one end of an edge is done ahead of a round, both are behind it. -/
theorem levs_done {E : List (Nat × Nat)} {n : Nat} (F : List (Nat × Nat)) (hF : ∀ e, e ∈ F → e.1 < n ∧ e.2 < n ∧ Con E e.1 e.2) (e : Nat × Nat) (he : e ∈ F) : ∀ W, Lab E n W → (Done E W e.1 ∨ Done E W e.2) → Done E (levs W F) e.1 ∧ Done E (levs W F) e.2 := by
  induction F with
  | nil => cases he
  | cons f F ih =>
    intro W h hd
    obtain ⟨h1, h2, h3⟩ := hF f (List.Mem.head _)
    have hl := h.len
    have h' := h.lev h1 h2 h3
    have hF' : ∀ e, e ∈ F → e.1 < n ∧ e.2 < n ∧ Con E e.1 e.2 := fun e' he' => hF e' (List.Mem.tail _ he')
    rcases List.mem_cons.1 he with rfl | he'
    · have g : ∀ v, (levs W (e :: F)).getD v 0 ≤ (lev W e.1 e.2).getD v 0 := (levs_lab F hF' _ h').2
      have hb := lev_both (W := W) (x := e.1) (y := e.2) (by omega) (by omega)
      have ha1 := (lev_at (W := W) (x := e.1) (y := e.2) (v := e.1) (by omega) (by omega)).1
      have ha2 := (lev_at (W := W) (x := e.1) (y := e.2) (v := e.2) (by omega) (by omega)).1
      rcases hd with hd | hd
      · exact ⟨fun u hu => by have := hd u hu; have := g e.1; omega, fun u hu => by have := hd u (h3.trans hu); have := g e.2; omega⟩
      · exact ⟨fun u hu => by have := hd u (h3.symm.trans hu); have := g e.1; omega, fun u hu => by have := hd u hu; have := g e.2; omega⟩
    · refine ih hF' he' _ h' ?_
      rcases hd with hd | hd
      · exact Or.inl fun u hu => Nat.le_trans (lev_at (by omega) (by omega)).1 (hd u hu)
      · exact Or.inr fun u hu => Nat.le_trans (lev_at (by omega) (by omega)).1 (hd u hu)
def levR (W : List Nat) (E : List (Nat × Nat)) : Nat → List Nat
  | 0 => W
  | r + 1 => levs (levR W E r) E
theorem levR_lab {E : List (Nat × Nat)} {n : Nat} (hE : ∀ e, e ∈ E → e.1 < n ∧ e.2 < n) {W : List Nat} (h : Lab E n W) (r : Nat) : Lab E n (levR W E r) := by
  induction r with
  | zero => exact h
  | succ r ih => exact (levs_lab E (fun e he => ⟨(hE e he).1, (hE e he).2, Con.edge he⟩) _ ih).1
theorem countP_more {p q : Nat → Bool} (l : List Nat) (h : ∀ x, p x = true → q x = true) (y : Nat) (hy : y ∈ l) (h1 : p y = false) (h2 : q y = true) : l.countP p < l.countP q := by
  induction l with
  | nil => cases hy
  | cons x l ih =>
    have hm : l.countP p ≤ l.countP q := List.countP_mono_left (fun a _ => h a)
    rcases List.mem_cons.1 hy with rfl | hy'
    · simp [h1, h2]; omega
    · have := ih hy'
      simp only [List.countP_cons]
      have : (if p x = true then 1 else 0) ≤ (if q x = true then 1 else (0 : Nat)) := by
        by_cases hp : p x = true
        · simp [hp, h x hp]
        · simp [hp]
      omega
open Classical in
theorem levR_done {E : List (Nat × Nat)} {n : Nat} (hE : ∀ e, e ∈ E → e.1 < n ∧ e.2 < n) {W : List Nat} (h : Lab E n W) (r : Nat) : (∀ v, v < n → Done E (levR W E r) v) ∨ r ≤ (List.range n).countP (fun v => decide (Done E (levR W E r) v)) := by
  induction r with
  | zero => exact Or.inr (Nat.zero_le _)
  | succ r ih =>
    have hF : ∀ e, e ∈ E → e.1 < n ∧ e.2 < n ∧ Con E e.1 e.2 := fun e he => ⟨(hE e he).1, (hE e he).2, Con.edge he⟩
    have hl := levR_lab hE h r
    have hg := (levs_lab E hF _ hl).2
    have hmono : ∀ v, Done E (levR W E r) v → Done E (levR W E (r + 1)) v := fun v hd u hu => Nat.le_trans (hg v) (hd u hu)
    by_cases hall : ∀ v, v < n → Done E (levR W E r) v
    · exact Or.inl fun v hv => hmono v (hall v hv)
    · right
      have hr : r ≤ (List.range n).countP (fun v => decide (Done E (levR W E r) v)) := by
        rcases ih with h1 | h1
        · exact absurd h1 hall
        · exact h1
      obtain ⟨v, hv⟩ := Classical.not_forall.1 hall
      have hvn : v < n := Classical.byContradiction fun hc => hv fun hh => absurd hh hc
      have hvd : ¬ Done E (levR W E r) v := fun hd => hv fun _ => hd
      obtain ⟨m, hm1, hm2⟩ := con_min E v
      have hmn : m < n := Nat.lt_of_le_of_lt (hm2 v (Con.refl E v)) hvn
      have hmd : Done E (levR W E r) m := fun u hu => Nat.le_trans (hl.le m hmn) (hm2 u (hm1.trans hu))
      -- a done and an undone end of an edge
      have hex : ∃ e, e ∈ E ∧ ((Done E (levR W E r) e.1 ∧ ¬ Done E (levR W E r) e.2) ∨ (¬ Done E (levR W E r) e.1 ∧ Done E (levR W E r) e.2)) := Classical.byContradiction fun hno => by
        have hcl : Closed E (fun z => Done E (levR W E r) z) := fun e he => by
          constructor
          · intro h1
            exact Classical.byContradiction fun h2 => hno ⟨e, he, Or.inl ⟨h1, h2⟩⟩
          · intro h1
            exact Classical.byContradiction fun h2 => hno ⟨e, he, Or.inr ⟨h2, h1⟩⟩
        exact hvd (hm1.symm _ hcl hmd)
      obtain ⟨e, he, hone⟩ := hex
      have hb := levs_done E hF e he _ hl (hone.elim (fun a => Or.inl a.1) (fun a => Or.inr a.2))
      refine Nat.lt_of_le_of_lt hr ?_
      rcases hone with ⟨_, h2⟩ | ⟨h1, _⟩
      · exact countP_more _ (fun x hx => by simp only [decide_eq_true_eq] at hx ⊢; exact hmono x hx) e.2 (List.mem_range.2 (hE e he).2) (by simp [h2]) (by simp; exact hb.2)
      · exact countP_more _ (fun x hx => by simp only [decide_eq_true_eq] at hx ⊢; exact hmono x hx) e.1 (List.mem_range.2 (hE e he).1) (by simp [h1]) (by simp; exact hb.1)
/-- A label is the least of what is joined. -/
def Least (E : List (Nat × Nat)) (n : Nat) (W : List Nat) : Prop := W.length = n ∧ ∀ v, v < n → Con E v (W.getD v 0) ∧ ∀ u, Con E v u → W.getD v 0 ≤ u
theorem Least.eq {E : List (Nat × Nat)} {n : Nat} {W V : List Nat} (h : Least E n W) (g : Least E n V) : W = V := by
  refine List.ext_getElem (by rw [h.1, g.1]) fun i h1 h2 => ?_
  have hi : i < n := by rw [← h.1]; exact h1
  have a := h.2 i hi
  have b := g.2 i hi
  have e : W.getD i 0 = V.getD i 0 := Nat.le_antisymm (a.2 _ b.1) (b.2 _ a.1)
  simpa [List.getD_eq_getElem?_getD, h1, h2] using e
theorem Least.lt {E : List (Nat × Nat)} {n : Nat} {W : List Nat} (h : Least E n W) {v : Nat} (hv : v < n) : W.getD v 0 < n := Nat.lt_of_le_of_lt ((h.2 v hv).2 v (Con.refl E v)) hv
theorem Least.same {E : List (Nat × Nat)} {n : Nat} {W : List Nat} (h : Least E n W) {u v : Nat} (hu : u < n) (hv : v < n) : W.getD u 0 = W.getD v 0 ↔ Con E u v := by
  constructor
  · intro e
    have a := (h.2 u hu).1
    rw [e] at a
    exact a.trans (h.2 v hv).1.symm
  · intro c
    exact Nat.le_antisymm ((h.2 u hu).2 _ (c.trans (h.2 v hv).1)) ((h.2 v hv).2 _ (c.symm.trans (h.2 u hu).1))
theorem levR_least {E : List (Nat × Nat)} {n : Nat} (hE : ∀ e, e ∈ E → e.1 < n ∧ e.2 < n) (r : Nat) (hr : n ≤ r) : Least E n (levR (List.range n) E r) := by
  have h0 : Lab E n (List.range n) := ⟨by simp, fun v hv => by simp [List.getD_eq_getElem?_getD, hv], fun v hv => by simp [List.getD_eq_getElem?_getD, hv, Con.refl]⟩
  have hl := levR_lab hE h0 r
  have hall : ∀ v, v < n → Done E (levR (List.range n) E r) v := by
    rcases levR_done hE h0 r with h | h
    · exact h
    · intro v hv
      have hc : (List.range n).countP (fun v => @decide (Done E (levR (List.range n) E r) v) (Classical.propDecidable _)) = (List.range n).length := Nat.le_antisymm List.countP_le_length (by simp; omega)
      have := List.countP_eq_length.1 hc v (List.mem_range.2 hv)
      simpa using this
  exact ⟨hl.len, fun v hv => ⟨hl.con v hv, hall v hv⟩⟩
end Go.Proofs.Ythlmkoiilgjflaa
