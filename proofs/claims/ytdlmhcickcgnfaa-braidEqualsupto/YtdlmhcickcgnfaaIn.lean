/- Slices that are read; lists of numbers that stand in a function's values; which walk an arc lies in. -/
import Derived.Test.YtdlmhcickcgnfaaW7P
namespace Go.Proofs.Ytdlmhcickcgnfaa
open Go.RowKit

/-- A slice to be read: nil; with no element; or its cells lie there, below B. -/
def RdAt (w : World) (B size : Nat) (v : Value) (n : Nat) (xs : List Value) : Prop := ∃ a cap, v = .slice a n cap ∧ (0 < n → ∃ b off, a = some ⟨b, off, none⟩ ∧ b < B ∧ ∀ j, j < n * size → w.cell? ⟨b, off + j, none⟩ = xs[j]?)
theorem RdAt.on {w w' : World} {B size n : Nat} {v : Value} {xs : List Value} (h : RdAt w B size v n xs) (hb : Below B w w') : RdAt w' B size v n xs := by
  obtain ⟨a, cap, rfl, f⟩ := h
  refine ⟨a, cap, rfl, fun h0 => ?_⟩
  obtain ⟨b, off, rfl, hlt, hc⟩ := f h0
  exact ⟨b, off, rfl, hlt, fun j hj => bcell hb hlt (hc j hj)⟩
theorem RdAt.mono {w : World} {B B' size n : Nat} {v : Value} {xs : List Value} (h : RdAt w B size v n xs) (hB : B ≤ B') : RdAt w B' size v n xs := by
  obtain ⟨a, cap, rfl, f⟩ := h
  refine ⟨a, cap, rfl, fun h0 => ?_⟩
  obtain ⟨b, off, rfl, hlt, hc⟩ := f h0
  exact ⟨b, off, rfl, Nat.lt_of_lt_of_le hlt hB, hc⟩
theorem own_rd {w : World} {B e size n : Nat} {v : Value} {xs : List Value} (h : w.ownsRow B e size v n xs) : RdAt w w.heap.size size v n xs := by
  have h0 := h
  rcases h.2 with ⟨rfl, h1⟩ | ⟨g, cap, cur, rfl, _, _, _⟩
  · exact ⟨none, 0, by rw [h1], fun hp => by omega⟩
  · exact ⟨some ⟨g, 0, none⟩, cap, rfl, fun _ => ⟨g, 0, rfl, (h0.lt g rfl).2, fun j hj => by rw [Nat.zero_add]; exact h0.cellAt j hj⟩⟩
/-- Lists of numbers to be read. -/
def NatsRd (w : World) (B : Nat) (v : Value) (L : List (List Nat)) : Prop := ∃ ys : List Value, ys.length = L.length ∧ RdAt w B 1 v L.length ys ∧ ∀ j, j < L.length → RdAt w B 1 (ys.getD j (.bool false)) (L.getD j []).length (nats (L.getD j []))
theorem NatsRd.on {w w' : World} {B : Nat} {v : Value} {L : List (List Nat)} (h : NatsRd w B v L) (hb : Below B w w') : NatsRd w' B v L := by
  obtain ⟨ys, hy, h1, h2⟩ := h
  exact ⟨ys, hy, h1.on hb, fun j hj => (h2 j hj).on hb⟩
theorem NatsRd.mono {w : World} {B B' : Nat} {v : Value} {L : List (List Nat)} (h : NatsRd w B v L) (hB : B ≤ B') : NatsRd w B' v L := by
  obtain ⟨ys, hy, h1, h2⟩ := h
  exact ⟨ys, hy, h1.mono hB, fun j hj => (h2 j hj).mono hB⟩
theorem NatsRd.up {w w' : World} {v : Value} {L : List (List Nat)} (h : NatsRd w w.heap.size v L) (hb : Below w.heap.size w w') : NatsRd w' w'.heap.size v L := (h.on hb).mono hb.size
theorem NatsOwn.rd {w : World} {B : Nat} {v : Value} {L : List (List Nat)} (h : NatsOwn w B v L) : NatsRd w w.heap.size v L := by
  obtain ⟨ys, hy, h1, h2⟩ := h
  exact ⟨ys, hy, by rw [← hy]; exact own_rd h1, fun j hj => own_rd (h2 j hj)⟩
theorem NatsRd.len {w : World} {B : Nat} {v : Value} {L : List (List Nat)} (h : NatsRd w B v L) : ∃ a cap, v = .slice a L.length cap := by
  obtain ⟨ys, hy, ⟨a, cap, e, -⟩, h2⟩ := h
  exact ⟨a, cap, e⟩
/-- The row j, and where it stands. -/
theorem NatsRd.row {w : World} {B : Nat} {a : Option Addr} {cap : Nat} {L : List (List Nat)} (h : NatsRd w B (.slice a L.length cap) L) (j : Nat) (hj : j < L.length) :
    ∃ b off ar cr, a = some ⟨b, off, none⟩ ∧ b < B ∧ w.cell? ⟨b, off + j, none⟩ = some (.slice ar (L.getD j []).length cr) ∧ RdAt w B 1 (.slice ar (L.getD j []).length cr) (L.getD j []).length (nats (L.getD j [])) := by
  obtain ⟨ys, hy, ⟨a', cap', e, f⟩, h2⟩ := h
  injection e with e1 e2 e3
  obtain ⟨b, off, eb, hlt, hc⟩ := f (by omega)
  have hr := h2 j hj
  obtain ⟨ar, cr, er, -⟩ := hr
  have hr := h2 j hj
  rw [er] at hr
  refine ⟨b, off, ar, cr, e1.trans eb, hlt, ?_, hr⟩
  rw [hc j (by omega), ← er]
  simp [List.getD, hy, hj]
theorem RdAt.nat {w : World} {B : Nat} {a : Option Addr} {cap : Nat} {l : List Nat} (h : RdAt w B 1 (.slice a l.length cap) l.length (nats l)) (k : Nat) (hk : k < l.length) :
    ∃ b off, a = some ⟨b, off, none⟩ ∧ b < B ∧ w.cell? ⟨b, off + k, none⟩ = some (.int .i64 (l.getD k 0 : Nat)) := by
  obtain ⟨a', cap', e, f⟩ := h
  injection e with e1 e2 e3
  obtain ⟨b, off, eb, hlt, hc⟩ := f (by omega)
  exact ⟨b, off, e1.trans eb, hlt, (hc k (by omega)).trans (nats_get l k hk)⟩

/-- A function's values, as a list. -/
def mapI (m : Nat) (f : Nat → Int) : List Int := (List.range m).map f
theorem mapI_len (m : Nat) (f : Nat → Int) : (mapI m f).length = m := by simp [mapI]
theorem mapI_get (m : Nat) (f : Nat → Int) (i : Nat) (h : i < m) : (mapI m f)[i]? = some (f i) := by simp [mapI, h]
theorem mapI_at (m : Nat) (f : Nat → Int) (i : Nat) (h : i < m) : (mapI m f).getD i 0 = f i := by rw [List.getD_eq_getElem?_getD, mapI_get m f i h]; rfl
theorem mapI_set (m : Nat) (f g : Nat → Int) (i : Nat) (x : Int) (h : ∀ j, j < m → g j = if j = i then x else f j) : (mapI m f).set i x = mapI m g := by
  apply List.ext_getElem?
  intro j
  by_cases hj : j < m
  · rw [mapI_get m g j hj, h j hj, List.getElem?_set]
    by_cases e : i = j
    · subst e; simp [mapI_len, hj]
    · rw [if_neg e, if_neg (fun h => e h.symm), mapI_get m f j hj]
  · rw [List.getElem?_eq_none (by simp [mapI_len]; omega), List.getElem?_eq_none (by simp [mapI_len]; omega)]
theorem mapI_zero (m : Nat) (f : Nat → Int) (h : ∀ j, j < m → f j = 0) : mapI m f = List.replicate m 0 := by
  apply List.ext_getElem?
  intro j
  by_cases hj : j < m
  · rw [mapI_get m f j hj, h j hj]; simp [hj]
  · rw [List.getElem?_eq_none (by simp [mapI_len]; omega), List.getElem?_eq_none (by simp; omega)]
theorem mapI_congr (m : Nat) (f g : Nat → Int) (h : ∀ j, j < m → f j = g j) : mapI m f = mapI m g := List.map_congr_left fun j hj => h j (List.mem_range.1 hj)

/-- All numbers of the first i rows, and the first k of row i. -/
def upN (L : List (List Nat)) (i k : Nat) : List Nat := (L.take i).flatten ++ (L.getD i []).take k
theorem upN_zero (L : List (List Nat)) : upN L 0 0 = [] := by simp [upN]
theorem upN_row (L : List (List Nat)) (j : Nat) (h : j < L.length) : upN L j (L.getD j []).length = upN L (j + 1) 0 := by
  unfold upN
  rw [List.take_length, List.take_succ_eq_append_getElem h, List.flatten_append, List.getD_eq_getElem?_getD]
  simp [h]
theorem upN_next (L : List (List Nat)) (j k : Nat) (h : k < (L.getD j []).length) : upN L j (k + 1) = upN L j k ++ [(L.getD j []).getD k 0] := by
  unfold upN
  rw [List.take_succ_eq_append_getElem h, ← List.append_assoc]
  congr 2
  rw [List.getD_eq_getElem?_getD (l := L.getD j []), List.getElem?_eq_getElem h]
  rfl
theorem upN_all (L : List (List Nat)) : upN L L.length 0 = L.flatten := by simp [upN]
/-- In which row a number lies. -/
def pt (L : List (List Nat)) (a : Nat) : Nat := L.findIdx fun l => decide (a ∈ l)
theorem two_rows (a : Nat) : ∀ (L : List (List Nat)) (i j : Nat), i < j → j < L.length → a ∈ L.getD i [] → a ∈ L.getD j [] → 2 ≤ L.flatten.count a
  | [], i, j, _, h, _, _ => absurd h (by simp)
  | x :: t, 0, j + 1, _, hj, h1, h2 => by
    have h3 : 1 ≤ x.count a := List.one_le_count_iff.2 (by simpa using h1)
    have hj' : j < t.length := by simpa using hj
    have h4 : a ∈ t.flatten := by
      refine List.mem_flatten.2 ⟨t.getD j [], ?_, by simpa using h2⟩
      rw [List.getD_eq_getElem?_getD, List.getElem?_eq_getElem hj']
      exact List.getElem_mem hj'
    have h5 : 1 ≤ t.flatten.count a := List.one_le_count_iff.2 h4
    rw [List.flatten_cons, List.count_append]
    omega
  | x :: t, i + 1, j + 1, hij, hj, h1, h2 => by
    have := two_rows a t i j (by omega) (by simpa using hj) (by simpa using h1) (by simpa using h2)
    rw [List.flatten_cons, List.count_append]
    omega
theorem pt_is {L : List (List Nat)} {a i : Nat} (h1 : L.flatten.count a = 1) (hi : i < L.length) (ha : a ∈ L.getD i []) : pt L a = i := by
  have hle : pt L a ≤ i := by
    refine Classical.byContradiction fun hc => ?_
    have := List.not_of_lt_findIdx (p := fun l => decide (a ∈ l)) (xs := L) (i := i) (by unfold pt at hc; omega)
    rw [List.getD_eq_getElem?_getD, List.getElem?_eq_getElem hi] at ha
    simp at this
    exact this (by simpa using ha)
  rcases Nat.lt_or_ge (pt L a) i with h | h
  · have hl : pt L a < L.length := by omega
    have hm := List.findIdx_getElem (p := fun l => decide (a ∈ l)) (xs := L) (w := hl)
    have hm2 : a ∈ L.getD (pt L a) [] := by
      rw [List.getD_eq_getElem?_getD, List.getElem?_eq_getElem hl]
      exact of_decide_eq_true hm
    have := two_rows a L (pt L a) i h hi hm2 ha
    omega
  · omega
theorem pt_lt {L : List (List Nat)} {a : Nat} (h1 : L.flatten.count a = 1) : pt L a < L.length := by
  have : a ∈ L.flatten := List.one_le_count_iff.1 (by omega)
  obtain ⟨l, hl, ha⟩ := List.mem_flatten.1 this
  exact List.findIdx_lt_length_of_exists ⟨l, hl, by simpa using ha⟩
theorem pt_mem {L : List (List Nat)} {a i : Nat} (h1 : L.flatten.count a = 1) (hi : i < L.length) : a ∈ L.getD i [] ↔ pt L a = i := by
  constructor
  · exact pt_is h1 hi
  · intro e
    have hl : pt L a < L.length := by omega
    have hm := List.findIdx_getElem (p := fun l => decide (a ∈ l)) (xs := L) (w := hl)
    rw [← e, List.getD_eq_getElem?_getD, List.getElem?_eq_getElem hl]
    exact of_decide_eq_true hm
/-- The rows' numbers, painted so far. -/
def paint (L : List (List Nat)) (i k a : Nat) : Int := if a ∈ upN L i k then (pt L a : Int) else 0
theorem paint_next (L : List (List Nat)) (m i k : Nat) (h1 : ∀ a, a ∈ L.flatten → L.flatten.count a = 1) (hi : i < L.length) (hk : k < (L.getD i []).length) : (mapI m (paint L i k)).set ((L.getD i []).getD k 0) (i : Int) = mapI m (paint L i (k + 1)) := by
  have hmem : (L.getD i []).getD k 0 ∈ L.getD i [] := by
    rw [List.getD_eq_getElem?_getD (l := L.getD i []), List.getElem?_eq_getElem hk]
    exact List.getElem_mem hk
  have hfl : (L.getD i []).getD k 0 ∈ L.flatten := by
    refine List.mem_flatten.2 ⟨L.getD i [], ?_, hmem⟩
    rw [List.getD_eq_getElem?_getD, List.getElem?_eq_getElem hi]
    exact List.getElem_mem hi
  have hp := pt_is (h1 _ hfl) hi hmem
  refine mapI_set _ _ _ _ _ fun j _ => ?_
  unfold paint
  rw [upN_next L i k hk]
  by_cases e : j = (L.getD i []).getD k 0
  · rw [if_pos e, e, if_pos (by simp), hp]
  · rw [if_neg e]
    simp only [List.mem_append, List.mem_singleton]
    by_cases h : j ∈ upN L i k
    · rw [if_pos h, if_pos (Or.inl h)]
    · rw [if_neg h, if_neg (fun hh => hh.elim h e)]
end Go.Proofs.Ytdlmhcickcgnfaa
