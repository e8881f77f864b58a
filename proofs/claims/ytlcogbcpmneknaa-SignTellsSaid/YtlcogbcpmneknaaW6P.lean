/- Several texts of the proof, one behind the other. -/
import Derived.Test.YtlcogbcpmneknaaW3P
import Derived.Test.YtlcogbcpmneknaaG7P
import Derived.Test.YtlcogbcpmneknaaW2P
import Derived.Test.YtlcogbcpmneknaaBaseP
import Derived.Laws.AppendOwnNone
import Derived.Lib.Hide
/- Visits: lists of them that a call owns; the walks of gauss.visits and gauss.signs. -/
namespace Go.Proofs.Ytlcogbcpmneknaa
open Go.RowKit

/-- Visits as cells. -/
def vflat (V : List (Nat × Bool)) : List Value := V.flatMap fun t => [.int .i64 (t.1 : Nat), .bool t.2]
theorem vflat_append (l m : List (Nat × Bool)) : vflat (l ++ m) = vflat l ++ vflat m := by simp [vflat]
theorem vflat_get (l : List (Nat × Bool)) (i : Nat) (hi : i < l.length) : (vflat l)[i * 2]? = some (.int .i64 ((l.getD i (0, false)).1 : Nat)) ∧ (vflat l)[i * 2 + 1]? = some (.bool (l.getD i (0, false)).2) := by
  induction l generalizing i with
  | nil => simp at hi
  | cons t l ih =>
    have e : vflat (t :: l) = .int .i64 (t.1 : Nat) :: .bool t.2 :: vflat l := rfl
    cases i with
    | zero => rw [e]; exact ⟨rfl, rfl⟩
    | succ i =>
      have := ih i (by simpa using hi)
      rw [e, show (i + 1) * 2 = i * 2 + 1 + 1 by omega]
      exact this
theorem vflat_one (l : List (Nat × Bool)) : ∀ u ∈ vflat l, u.oneCell' = true := by
  intro u hu
  simp only [vflat, List.mem_flatMap] at hu
  obtain ⟨t, _, ht⟩ := hu
  simp at ht
  rcases ht with rfl | rfl <;> rfl
/-- The walks as one looks at them. -/
def WksAt (w : World) (v : Value) (L : List (List Nat)) : Prop := ∃ ys : List Value, ys.length = L.length ∧ Slots w w.heap.size v ys ∧ ∀ j, j < L.length → Slots w w.heap.size (ys.getD j (.bool false)) (nats (L.getD j []))
theorem WksAt.on {w w' : World} {v : Value} {L : List (List Nat)} (h : WksAt w v L) (hb : Below w.heap.size w w') : WksAt w' v L := by
  obtain ⟨ys, h1, h2, h3⟩ := h
  exact ⟨ys, h1, (h2.on hb).mono hb.size, fun j hj => ((h3 j hj).on hb).mono hb.size⟩
end Go.Proofs.Ytlcogbcpmneknaa
/- The walk of gauss.signs; rows of visits and of signs that are the same. -/
namespace Go.Proofs.Ytlcogbcpmneknaa
open Go.RowKit

/-- A list of visits as one looks at it. -/
def VS (w : World) (v : Value) (V : List (Nat × Bool)) : Prop := ∃ a cap, v = .slice a V.length cap ∧ (0 < V.length → ∃ b off, a = some ⟨b, off, none⟩ ∧ b < w.heap.size ∧ ∀ i, i < V.length → w.cell? ⟨b, off + i * 2, none⟩ = some (.int .i64 ((V.getD i (0, false)).1 : Nat)) ∧ w.cell? ⟨b, off + i * 2 + 1, none⟩ = some (.bool (V.getD i (0, false)).2))
def VsAt (w : World) (v : Value) (L : List (List (Nat × Bool))) : Prop := ∃ ys : List Value, ys.length = L.length ∧ Slots w w.heap.size v ys ∧ ∀ j, j < L.length → VS w (ys.getD j (.bool false)) (L.getD j [])
theorem VS.on {w w' : World} {v : Value} {V : List (Nat × Bool)} (h : VS w v V) (hb : Below w.heap.size w w') : VS w' v V := by
  obtain ⟨a, cap, rfl, g⟩ := h
  refine ⟨a, cap, rfl, fun hp => ?_⟩
  obtain ⟨b, off, rfl, hlt, hc⟩ := g hp
  exact ⟨b, off, rfl, Nat.lt_of_lt_of_le hlt hb.size, fun i hi => ⟨bcell hb hlt (hc i hi).1, bcell hb hlt (hc i hi).2⟩⟩
theorem VsAt.on {w w' : World} {v : Value} {L : List (List (Nat × Bool))} (h : VsAt w v L) (hb : Below w.heap.size w w') : VsAt w' v L := by
  obtain ⟨ys, h1, h2, h3⟩ := h
  exact ⟨ys, h1, (h2.on hb).mono hb.size, fun j hj => (h3 j hj).on hb⟩

end Go.Proofs.Ytlcogbcpmneknaa
/- Lists of whole numbers that a call owns; the walk of gauss.evenNumbers. -/
namespace Go.Proofs.Ytlcogbcpmneknaa
open Go.RowKit

def intsV (l : List Int) : List Value := l.map fun x => .int .i64 x
theorem intsV_len (l : List Int) : (intsV l).length = l.length := by simp [intsV]
theorem intsV_get (l : List Int) (i : Nat) (h : i < l.length) : (intsV l)[i]? = some (.int .i64 (l.getD i 0)) := by simp [intsV, List.getD, h]
theorem intsV_set (l : List Int) (i : Nat) (x : Int) : (intsV l).set i (.int .i64 x) = intsV (l.set i x) := by simp [intsV, List.map_set]
theorem made_zero (n : Nat) : (madeCells (Value.int .i64 0).cells (n * 1)).toList = intsV (List.replicate n 0) := by
  have e : (Value.int .i64 0).cells = #[Value.int .i64 0] := rfl
  rw [e, toList_madeCells_one, Nat.mul_one]
  simp [intsV]
end Go.Proofs.Ytlcogbcpmneknaa
/- Slices that are read; lists of numbers that stand in a function's values; which walk an arc lies in. -/
namespace Go.Proofs.Ytlcogbcpmneknaa
open Go.RowKit

/-- A slice to be read: nil; with no element; or its cells lie there, below B. -/
def RdAt (w : World) (B size : Nat) (v : Value) (n : Nat) (xs : List Value) : Prop := ∃ a cap, v = .slice a n cap ∧ (0 < n → ∃ b off, a = some ⟨b, off, none⟩ ∧ b < B ∧ ∀ j, j < n * size → w.cell? ⟨b, off + j, none⟩ = xs[j]?)
theorem RdAt.on {w w' : World} {B size n : Nat} {v : Value} {xs : List Value} (h : RdAt w B size v n xs) (hb : Below B w w') : RdAt w' B size v n xs := by
  obtain ⟨a, cap, rfl, f⟩ := h
  refine ⟨a, cap, rfl, fun h0 => ?_⟩
  obtain ⟨b, off, rfl, hlt, hc⟩ := f h0
  exact ⟨b, off, rfl, hlt, fun j hj => bcell hb hlt (hc j hj)⟩
theorem RdAt.mono {w : World} {B B' size n : Nat} {v : Value} {xs : List Value} (h : RdAt w B size v n xs) (hB : B ≤ B') : RdAt w B' size v n xs := by
  obtain ⟨a, cap, rfl, f⟩ := h
  refine ⟨a, cap, rfl, fun h0 => ?_⟩
  obtain ⟨b, off, rfl, hlt, hc⟩ := f h0
  exact ⟨b, off, rfl, Nat.lt_of_lt_of_le hlt hB, hc⟩
theorem own_rd {w : World} {B e size n : Nat} {v : Value} {xs : List Value} (h : w.ownsRow B e size v n xs) : RdAt w w.heap.size size v n xs := by
  have h0 := h
  rcases h.2 with ⟨rfl, h1⟩ | ⟨g, cap, cur, rfl, _, _, _⟩
  · exact ⟨none, 0, by rw [h1], fun hp => by omega⟩
  · exact ⟨some ⟨g, 0, none⟩, cap, rfl, fun _ => ⟨g, 0, rfl, (h0.lt g rfl).2, fun j hj => by rw [Nat.zero_add]; exact h0.cellAt j hj⟩⟩
/-- Lists of numbers to be read. -/
def NatsRd (w : World) (B : Nat) (v : Value) (L : List (List Nat)) : Prop := ∃ ys : List Value, ys.length = L.length ∧ RdAt w B 1 v L.length ys ∧ ∀ j, j < L.length → RdAt w B 1 (ys.getD j (.bool false)) (L.getD j []).length (nats (L.getD j []))
theorem NatsRd.on {w w' : World} {B : Nat} {v : Value} {L : List (List Nat)} (h : NatsRd w B v L) (hb : Below B w w') : NatsRd w' B v L := by
  obtain ⟨ys, hy, h1, h2⟩ := h
  exact ⟨ys, hy, h1.on hb, fun j hj => (h2 j hj).on hb⟩
theorem NatsRd.mono {w : World} {B B' : Nat} {v : Value} {L : List (List Nat)} (h : NatsRd w B v L) (hB : B ≤ B') : NatsRd w B' v L := by
  obtain ⟨ys, hy, h1, h2⟩ := h
  exact ⟨ys, hy, h1.mono hB, fun j hj => (h2 j hj).mono hB⟩
theorem NatsRd.up {w w' : World} {v : Value} {L : List (List Nat)} (h : NatsRd w w.heap.size v L) (hb : Below w.heap.size w w') : NatsRd w' w'.heap.size v L := (h.on hb).mono hb.size
theorem NatsRd.len {w : World} {B : Nat} {v : Value} {L : List (List Nat)} (h : NatsRd w B v L) : ∃ a cap, v = .slice a L.length cap := by
  obtain ⟨ys, hy, ⟨a, cap, e, -⟩, h2⟩ := h
  exact ⟨a, cap, e⟩
/-- The row j, and where it stands. -/
theorem NatsRd.row {w : World} {B : Nat} {a : Option Addr} {cap : Nat} {L : List (List Nat)} (h : NatsRd w B (.slice a L.length cap) L) (j : Nat) (hj : j < L.length) :
    ∃ b off ar cr, a = some ⟨b, off, none⟩ ∧ b < B ∧ w.cell? ⟨b, off + j, none⟩ = some (.slice ar (L.getD j []).length cr) ∧ RdAt w B 1 (.slice ar (L.getD j []).length cr) (L.getD j []).length (nats (L.getD j [])) := by
  obtain ⟨ys, hy, ⟨a', cap', e, f⟩, h2⟩ := h
  injection e with e1 e2 e3
  obtain ⟨b, off, eb, hlt, hc⟩ := f (by omega)
  have hr := h2 j hj
  obtain ⟨ar, cr, er, -⟩ := hr
  have hr := h2 j hj
  rw [er] at hr
  refine ⟨b, off, ar, cr, e1.trans eb, hlt, ?_, hr⟩
  rw [hc j (by omega), ← er]
  simp [List.getD, hy, hj]
/-- A function's values, as a list. -/
def mapI (m : Nat) (f : Nat → Int) : List Int := (List.range m).map f
theorem mapI_len (m : Nat) (f : Nat → Int) : (mapI m f).length = m := by simp [mapI]
theorem mapI_get (m : Nat) (f : Nat → Int) (i : Nat) (h : i < m) : (mapI m f)[i]? = some (f i) := by simp [mapI, h]
theorem mapI_at (m : Nat) (f : Nat → Int) (i : Nat) (h : i < m) : (mapI m f).getD i 0 = f i := by rw [List.getD_eq_getElem?_getD, mapI_get m f i h]; rfl
theorem mapI_set (m : Nat) (f g : Nat → Int) (i : Nat) (x : Int) (h : ∀ j, j < m → g j = if j = i then x else f j) : (mapI m f).set i x = mapI m g := by
  apply List.ext_getElem?
  intro j
  by_cases hj : j < m
  · rw [mapI_get m g j hj, h j hj, List.getElem?_set]
    by_cases e : i = j
    · subst e; simp [mapI_len, hj]
    · rw [if_neg e, if_neg (fun h => e h.symm), mapI_get m f j hj]
  · rw [List.getElem?_eq_none (by simp [mapI_len]; omega), List.getElem?_eq_none (by simp [mapI_len]; omega)]
theorem mapI_zero (m : Nat) (f : Nat → Int) (h : ∀ j, j < m → f j = 0) : mapI m f = List.replicate m 0 := by
  apply List.ext_getElem?
  intro j
  by_cases hj : j < m
  · rw [mapI_get m f j hj, h j hj]; simp [hj]
  · rw [List.getElem?_eq_none (by simp [mapI_len]; omega), List.getElem?_eq_none (by simp; omega)]
theorem mapI_congr (m : Nat) (f g : Nat → Int) (h : ∀ j, j < m → f j = g j) : mapI m f = mapI m g := List.map_congr_left fun j hj => h j (List.mem_range.1 hj)

/-- In which row a number lies. -/
def pt (L : List (List Nat)) (a : Nat) : Nat := L.findIdx fun l => decide (a ∈ l)
theorem two_rows (a : Nat) : ∀ (L : List (List Nat)) (i j : Nat), i < j → j < L.length → a ∈ L.getD i [] → a ∈ L.getD j [] → 2 ≤ L.flatten.count a
  | [], i, j, _, h, _, _ => absurd h (by simp)
  | x :: t, 0, j + 1, _, hj, h1, h2 => by
    have h3 : 1 ≤ x.count a := List.one_le_count_iff.2 (by simpa using h1)
    have hj' : j < t.length := by simpa using hj
    have h4 : a ∈ t.flatten := by
      refine List.mem_flatten.2 ⟨t.getD j [], ?_, by simpa using h2⟩
      rw [List.getD_eq_getElem?_getD, List.getElem?_eq_getElem hj']
      exact List.getElem_mem hj'
    have h5 : 1 ≤ t.flatten.count a := List.one_le_count_iff.2 h4
    rw [List.flatten_cons, List.count_append]
    omega
  | x :: t, i + 1, j + 1, hij, hj, h1, h2 => by
    have := two_rows a t i j (by omega) (by simpa using hj) (by simpa using h1) (by simpa using h2)
    rw [List.flatten_cons, List.count_append]
    omega
theorem pt_is {L : List (List Nat)} {a i : Nat} (h1 : L.flatten.count a = 1) (hi : i < L.length) (ha : a ∈ L.getD i []) : pt L a = i := by
  have hle : pt L a ≤ i := by
    refine Classical.byContradiction fun hc => ?_
    have := List.not_of_lt_findIdx (p := fun l => decide (a ∈ l)) (xs := L) (i := i) (by unfold pt at hc; omega)
    rw [List.getD_eq_getElem?_getD, List.getElem?_eq_getElem hi] at ha
    simp at this
    exact this (by simpa using ha)
  rcases Nat.lt_or_ge (pt L a) i with h | h
  · have hl : pt L a < L.length := by omega
    have hm := List.findIdx_getElem (p := fun l => decide (a ∈ l)) (xs := L) (w := hl)
    have hm2 : a ∈ L.getD (pt L a) [] := by
      rw [List.getD_eq_getElem?_getD, List.getElem?_eq_getElem hl]
      exact of_decide_eq_true hm
    have := two_rows a L (pt L a) i h hi hm2 ha
    omega
  · omega
theorem pt_lt {L : List (List Nat)} {a : Nat} (h1 : L.flatten.count a = 1) : pt L a < L.length := by
  have : a ∈ L.flatten := List.one_le_count_iff.1 (by omega)
  obtain ⟨l, hl, ha⟩ := List.mem_flatten.1 this
  exact List.findIdx_lt_length_of_exists ⟨l, hl, by simpa using ha⟩
theorem pt_mem {L : List (List Nat)} {a i : Nat} (h1 : L.flatten.count a = 1) (hi : i < L.length) : a ∈ L.getD i [] ↔ pt L a = i := by
  constructor
  · exact pt_is h1 hi
  · intro e
    have hl : pt L a < L.length := by omega
    have hm := List.findIdx_getElem (p := fun l => decide (a ∈ l)) (xs := L) (w := hl)
    rw [← e, List.getD_eq_getElem?_getD, List.getElem?_eq_getElem hl]
    exact of_decide_eq_true hm
end Go.Proofs.Ytlcogbcpmneknaa
/- Tables of numbers whose rows lie in blocks of their own, and such under way (out of Q2 and Q4). -/
namespace Go.Proofs.Ytlcogbcpmneknaa
open Go.RowKit

def hdr (n m : Nat) (gs : Nat → Nat) : List Value := (List.range n).map fun i => .slice (some ⟨gs i, 0, none⟩) m m
theorem hdr_get (n m : Nat) (gs : Nat → Nat) (i : Nat) (h : i < n) : (hdr n m gs)[i]? = some (.slice (some ⟨gs i, 0, none⟩) m m) := by simp [hdr, h]
/-- A table of numbers, n rows of m, that a call owns. -/
structure TabO (B gt cap n m : Nat) (gs : Nat → Nat) (T : Nat → Nat → Int) (W : World) : Prop where
  outer : W.ownsRow B 41 1 (.slice (some ⟨gt, 0, none⟩) n cap) n (hdr n m gs)
  rows : ∀ i, i < n → W.ownsRow B 3 1 (.slice (some ⟨gs i, 0, none⟩) m m) m (intsV (mapI m (T i)))
  inj : ∀ i j, i < n → j < n → gs i = gs j → i = j
theorem TabO.any {B gt cap n m : Nat} {gs : Nat → Nat} {T : Nat → Nat → Int} {W W' : World} (h : TabO B gt cap n m gs T W) (hg : W.grownBy W' none) : TabO B gt cap n m gs T W' :=
  ⟨own_any h.outer hg, fun i hi => own_any (h.rows i hi) hg, h.inj⟩
theorem TabO.cellO {B gt cap n m : Nat} {gs : Nat → Nat} {T : Nat → Nat → Int} {W : World} (h : TabO B gt cap n m gs T W) (i : Nat) (hi : i < n) : W.cell? ⟨gt, i, none⟩ = some (.slice (some ⟨gs i, 0, none⟩) m m) := by
  rw [h.outer.cellAt i (by omega), hdr_get n m gs i hi]
theorem TabO.cellR {B gt cap n m : Nat} {gs : Nat → Nat} {T : Nat → Nat → Int} {W : World} (h : TabO B gt cap n m gs T W) (i j : Nat) (hi : i < n) (hj : j < m) : W.cell? ⟨gs i, j, none⟩ = some (.int .i64 (T i j)) := by
  rw [(h.rows i hi).cellAt j (by omega), intsV_get _ j (by rw [mapI_len]; exact hj), mapI_at _ _ _ hj]
theorem TabO.set {B gt cap n m : Nat} {gs : Nat → Nat} {T T' : Nat → Nat → Int} {W : World} (h : TabO B gt cap n m gs T W) (i j : Nat) (x : Int) (hi : i < n) (hT : ∀ a b, a < n → b < m → T' a b = if a = i ∧ b = j then x else T a b) :
    TabO B gt cap n m gs T' (W.setCell ⟨gs i, j, none⟩ (.int .i64 x)) ∧ W.grownBy (W.setCell ⟨gs i, j, none⟩ (.int .i64 x)) (some (gs i)) := by
  have hst := (h.rows i hi).stored j (.int .i64 x)
  rw [intsV_set] at hst
  refine ⟨⟨h.outer.kept hst.2 (own_ne h.outer (h.rows i hi) (by decide)), fun a ha => ?_, h.inj⟩, hst.2⟩
  by_cases e : a = i
  · subst e
    rw [mapI_set m (T a) (T' a) j x (fun b hb => by rw [hT a b ha hb]; by_cases e : b = j <;> simp [e])] at hst
    exact hst.1
  · have hr := (h.rows a ha).kept hst.2 (Or.inr (fun q => e (h.inj a i ha hi (Option.some.inj q))))
    rw [mapI_congr m (T' a) (T a) (fun b hb => by rw [hT a b ha hb, if_neg (fun q => e q.1)])]
    exact hr
theorem TabO.congr {B gt cap n m : Nat} {gs : Nat → Nat} {T T' : Nat → Nat → Int} {W : World} (h : TabO B gt cap n m gs T W) (e : ∀ x y, x < n → y < m → T' x y = T x y) : TabO B gt cap n m gs T' W :=
  ⟨h.outer, fun i hi => by rw [mapI_congr m (T' i) (T i) (fun y hy => e i y hi hy)]; exact h.rows i hi, h.inj⟩
/-- A table under way: its outer slice is whatever append gave. -/
structure TabP (B n m : Nat) (gs : Nat → Nat) (T : Nat → Nat → Int) (v : Value) (W : World) : Prop where
  outer : W.ownsRow B 41 1 v n (hdr n m gs)
  rows : ∀ i, i < n → W.ownsRow B 3 1 (.slice (some ⟨gs i, 0, none⟩) m m) m (intsV (mapI m (T i)))
  inj : ∀ i j, i < n → j < n → gs i = gs j → i = j
theorem TabP.any {B n m : Nat} {gs : Nat → Nat} {T : Nat → Nat → Int} {v : Value} {W W' : World} (h : TabP B n m gs T v W) (hg : W.grownBy W' none) : TabP B n m gs T v W' :=
  ⟨own_any h.outer hg, fun i hi => own_any (h.rows i hi) hg, h.inj⟩
theorem TabP.nil (B m : Nat) (gs : Nat → Nat) (T : Nat → Nat → Int) (W : World) : TabP B 0 m gs T (.slice none 0 0) W :=
  ⟨World.ownsRow_nil _ _ _ _, fun _ hi => absurd hi (Nat.not_lt_zero _), fun _ _ hi => absurd hi (Nat.not_lt_zero _)⟩
/-- What a store into another block leaves. -/
theorem TabP.other {B n m g : Nat} {gs : Nat → Nat} {T : Nat → Nat → Int} {v : Value} {W W' : World} (h : TabP B n m gs T v W) (hg : W.grownBy W' (some g)) (hv : v.ownBlock ≠ some g) (hr : ∀ i, i < n → gs i ≠ g) : TabP B n m gs T v W' :=
  ⟨h.outer.kept hg (Or.inr hv), fun i hi => (h.rows i hi).kept hg (Or.inr (fun e => hr i hi (Option.some.inj e))), h.inj⟩
theorem hdr_next (n m g : Nat) (gs : Nat → Nat) : hdr n m gs ++ [.slice (some ⟨g, 0, none⟩) m m] = hdr (n + 1) m (fun i => if i = n then g else gs i) := by
  unfold hdr
  rw [List.range_succ, List.map_append]
  congr 1
  · refine List.map_congr_left fun i hi => ?_
    have h : i ≠ n := by have := List.mem_range.1 hi; omega
    simp [h]
  · simp
/-- A row more, by append. -/
theorem TabP.more {B n m g : Nat} {gs : Nat → Nat} {T : Nat → Nat → Int} {v v' : Value} {W W' : World} (h : TabP B n m gs T v W) (hr : W.ownsRow B 3 1 (.slice (some ⟨g, 0, none⟩) m m) m (intsV (mapI m (T n)))) (hne : ∀ i, i < n → gs i ≠ g)
    (hg : W.grownBy W' v.ownBlock) (ho : W'.ownsRow B 41 1 v' (n + 1) (hdr n m gs ++ [.slice (some ⟨g, 0, none⟩) m m])) : TabP B (n + 1) m (fun i => if i = n then g else gs i) T v' W' := by
  refine ⟨by rw [← hdr_next]; exact ho, fun i hi => ?_, fun i j hi hj e => ?_⟩
  · by_cases e : i = n
    · subst e
      simp only [if_true]
      exact hr.kept hg (own_ne hr h.outer (by decide))
    · simp only [if_neg e]
      have := h.rows i (by omega)
      exact this.kept hg (own_ne this h.outer (by decide))
  · have e : (if i = n then g else gs i) = (if j = n then g else gs j) := e
    by_cases e1 : i = n
    · by_cases e2 : j = n
      · omega
      · rw [if_pos e1, if_neg e2] at e; exact absurd e.symm (hne j (by omega))
    · by_cases e2 : j = n
      · rw [if_neg e1, if_pos e2] at e; exact absurd e (hne i (by omega))
      · rw [if_neg e1, if_neg e2] at e; exact h.inj i j (by omega) (by omega) e
theorem TabP.whole {B n m : Nat} {gs : Nat → Nat} {T : Nat → Nat → Int} {v : Value} {W : World} (h : TabP B n m gs T v W) (hn : 0 < n) : ∃ gt cap, v = .slice (some ⟨gt, 0, none⟩) n cap ∧ n ≤ cap ∧ TabO B gt cap n m gs T W := by
  rcases h.outer.2 with ⟨_, h0⟩ | ⟨g, cap, cur, hv, _, _, hc, _⟩
  · omega
  · subst hv
    exact ⟨g, cap, rfl, hc, h.outer, h.rows, h.inj⟩
end Go.Proofs.Ytlcogbcpmneknaa
/- Plain mathematics: overpasses; labels that are merged edge by edge come to the least of what is joined. -/
namespace Go.Proofs.Ytlcogbcpmneknaa

/-- Two labels made one: the higher is called as the lower. -/
def mer (W : List Nat) (x y : Nat) : List Nat := W.map fun z => if z = max (W.getD x 0) (W.getD y 0) then min (W.getD x 0) (W.getD y 0) else z
theorem mer_len (W : List Nat) (x y : Nat) : (mer W x y).length = W.length := by simp [mer]
theorem mer_at (W : List Nat) (x y v : Nat) (hv : v < W.length) : (mer W x y).getD v 0 = if W.getD v 0 = max (W.getD x 0) (W.getD y 0) then min (W.getD x 0) (W.getD y 0) else W.getD v 0 := by
  simp [mer, List.getD_eq_getElem?_getD, hv]
theorem mer_least {F : List (Nat × Nat)} {n : Nat} {W : List Nat} (h : Least F n W) (x y : Nat) (hx : x < n) (hy : y < n) (hF : ∀ e, e ∈ F → e.1 < n ∧ e.2 < n) : Least (F ++ [(x, y)]) n (mer W x y) := by
  obtain ⟨hl, h2⟩ := h
  have up : ∀ {u v : Nat}, Con F u v → Con (F ++ [(x, y)]) u v := fun hc S hS hu => hc S (fun e he => hS e (List.mem_append_left _ he)) hu
  have hxy : Con (F ++ [(x, y)]) x y := Con.edge (List.mem_append_right _ (List.Mem.head _))
  have lx := up (h2 x hx).1
  have ly := up (h2 y hy).1
  have hWW : Con (F ++ [(x, y)]) (W.getD x 0) (W.getD y 0) := lx.symm.trans (hxy.trans ly)
  have hmm : Con (F ++ [(x, y)]) (max (W.getD x 0) (W.getD y 0)) (min (W.getD x 0) (W.getD y 0)) := by
    rcases Nat.le_total (W.getD x 0) (W.getD y 0) with hle | hle
    · rw [Nat.max_eq_right hle, Nat.min_eq_left hle]; exact hWW.symm
    · rw [Nat.max_eq_left hle, Nat.min_eq_right hle]; exact hWW
  have hcon : ∀ v, v < n → Con (F ++ [(x, y)]) v ((mer W x y).getD v 0) := fun v hv => by
    rw [mer_at W x y v (by omega)]
    split
    · rename_i he
      have := up (h2 v hv).1
      rw [he] at this
      exact this.trans hmm
    · exact up (h2 v hv).1
  have hle : ∀ v, v < n → (mer W x y).getD v 0 ≤ v := fun v hv => by
    have h3 := (h2 v hv).2 v (Con.refl F v)
    rw [mer_at W x y v (by omega)]
    split
    · rename_i he; omega
    · exact h3
  refine ⟨by rw [mer_len]; exact hl, fun v hv => ⟨hcon v hv, fun u hu => ?_⟩⟩
  have hcl : Closed (F ++ [(x, y)]) (fun z => z < n ∧ (mer W x y).getD z 0 = (mer W x y).getD v 0) := fun e he => by
    rcases List.mem_append.1 he with h4 | h4
    · obtain ⟨e1, e2⟩ := hF e h4
      have hs : W.getD e.1 0 = W.getD e.2 0 := by
        have c : Con F e.1 e.2 := Con.edge (by cases e; exact h4)
        exact Nat.le_antisymm ((h2 _ e1).2 _ (c.trans (h2 _ e2).1)) ((h2 _ e2).2 _ (c.symm.trans (h2 _ e1).1))
      have hm : (mer W x y).getD e.1 0 = (mer W x y).getD e.2 0 := by
        rw [mer_at W x y _ (by omega), mer_at W x y _ (by omega), hs]
      show (e.1 < n ∧ (mer W x y).getD e.1 0 = _) ↔ (e.2 < n ∧ (mer W x y).getD e.2 0 = _)
      rw [hm]; exact ⟨fun q => ⟨e2, q.2⟩, fun q => ⟨e1, q.2⟩⟩
    · have : e = (x, y) := by simpa using h4
      subst this
      have hm : (mer W x y).getD x 0 = (mer W x y).getD y 0 := by
        rw [mer_at W x y _ (by omega), mer_at W x y _ (by omega)]
        split <;> split <;> omega
      show (x < n ∧ (mer W x y).getD x 0 = _) ↔ (y < n ∧ (mer W x y).getD y 0 = _)
      rw [hm]; exact ⟨fun q => ⟨hy, q.2⟩, fun q => ⟨hx, q.2⟩⟩
  obtain ⟨a1, a2⟩ := hu _ hcl ⟨hv, rfl⟩
  rw [← a2]
  exact hle u a1
def mers (W : List Nat) : List (Nat × Nat) → List Nat
  | [] => W
  | e :: E => mers (mer W e.1 e.2) E
theorem mers_app (W : List Nat) (E F : List (Nat × Nat)) : mers W (E ++ F) = mers (mers W E) F := by
  induction E generalizing W with
  | nil => rfl
  | cons e E ih => exact ih _
theorem least_nil (n : Nat) : Least [] n (List.range n) := by
  refine ⟨by simp, fun v hv => ?_⟩
  have e : (List.range n).getD v 0 = v := by simp [List.getD_eq_getElem?_getD, hv]
  rw [e]
  exact ⟨Con.refl _ v, fun u hu => by
    have := hu (fun z => z = v) (fun e he => by cases he) rfl
    omega⟩
theorem mers_least (n : Nat) : ∀ (E F : List (Nat × Nat)) (W : List Nat), (∀ e, e ∈ F ++ E → e.1 < n ∧ e.2 < n) → Least F n W → Least (F ++ E) n (mers W E) := by
  intro E
  induction E with
  | nil => intro F W _ h; simpa [mers] using h
  | cons e E ih =>
    intro F W hE h
    obtain ⟨e1, e2⟩ := hE e (by simp)
    have h' := mer_least h e.1 e.2 e1 e2 (fun f hf => hE f (List.mem_append_left _ hf))
    have := ih (F ++ [(e.1, e.2)]) _ (fun f hf => hE f (by simpa using hf)) h'
    simpa [mers] using this

/-- The lowest of an overpass is the lowest of its own. -/
theorem Least.root {E : List (Nat × Nat)} {n : Nat} {W : List Nat} (h : Least E n W) {v : Nat} (hv : v < n) : W.getD (W.getD v 0) 0 = W.getD v 0 := (h.same (h.lt hv) hv).2 (h.2 v hv).1.symm
theorem Least.le {E : List (Nat × Nat)} {n : Nat} {W : List Nat} (h : Least E n W) {v : Nat} (hv : v < n) : W.getD v 0 ≤ v := (h.2 v hv).2 v (Con.refl E v)
end Go.Proofs.Ytlcogbcpmneknaa
/- The walks of Drawing.End, Drawing.Onward, way; ref.dartCode, ref.NextDart. -/
namespace Go.Proofs.Ytlcogbcpmneknaa
open Go.RowKit

theorem Dr.endAt {w : World} {a : Option Addr} {cap : Nat} {C : List Cr} {gF gT : Nat} {loops : Int} (h : Dr w a cap C gF gT) (hm : mayD C loops = true) (x : Nat) (h1 : 1 ≤ x) (h2 : x ≤ 2 * C.length) :
    w.cell? ⟨gT, x * 2, none⟩ = some (.int .i64 (enC C x true : Nat)) ∧ w.cell? ⟨gT, x * 2 + 1, none⟩ = some (.int .i64 (enS C x true : Nat)) ∧ w.cell? ⟨gF, x * 2, none⟩ = some (.int .i64 (enC C x false : Nat)) ∧ w.cell? ⟨gF, x * 2 + 1, none⟩ = some (.int .i64 (enS C x false : Nat)) := by
  have hT := h.to x (by rw [ends_length]; omega)
  have hF := h.from_ x (by rw [ends_length]; omega)
  rw [ends_at C true C.length 0 x h1 h2, Nat.zero_add] at hT
  rw [ends_at C false C.length 0 x h1 h2, Nat.zero_add] at hF
  have e : endAh C x true C.length 0 = endTo C x true C.length := rfl
  have e2 : endAh C x false C.length 0 = endTo C x false C.length := rfl
  rw [e, (en_may hm x true h1 h2).1] at hT
  rw [e2, (en_may hm x false h1 h2).1] at hF
  exact ⟨hT.1, hT.2, hF.1, hF.2⟩

set_option maxHeartbeats 2000000 in
set_option maxRecDepth 100000 in
theorem end_any (a : Option Addr) (cap : Nat) (C : List Cr) (loops : Int) (gF cF gT cT : Nat) (x : Nat) (p : Bool) (w : World) (hm : mayD C loops = true) (h1 : 1 ≤ x) (h2 : x ≤ 2 * C.length) (hD : Dr w a cap C gF gT) :
    Calls Try.prog 52 #[drV a cap C loops gF cF gT cT, .agg #[.int .i64 x, .bool p]] w fun e w' => e = .returned (.agg #[.int .i64 (enC C x (!p) : Nat), .int .i64 (enS C x (!p) : Nat)]) ∧ Below w.heap.size w w' := by
  unfold drV
  obtain ⟨c0, c1, c2, c3⟩ := hD.endAt hm x h1 h2
  have l1 := hD.ltT
  have l2 := hD.ltF
  clear hD
  have hB3 : Below w.heap.size w (((w.alloc (.cells #[.slice a C.length cap, .int .i64 loops, .slice (some ⟨gF, 0, none⟩) (2 * C.length + 1) cF, .slice (some ⟨gT, 0, none⟩) (2 * C.length + 1) cT] 39)).alloc (.cells #[.int .i64 x, .bool p] 67)).alloc (.cells #[.int .i64 0, .int .i64 0] 90)) := below3 _ _ _ _
  have d0 := bcell hB3 l1 c0
  have d1 := bcell hB3 l1 c1
  have d2 := bcell hB3 l2 c2
  have d3 := bcell hB3 l2 c3
  clear hB3 c0 c1 c2 c3
  obtain ⟨t0, ht0⟩ : ∃ t0, enC C x true = t0 := ⟨_, rfl⟩
  obtain ⟨t1, ht1⟩ : ∃ t1, enS C x true = t1 := ⟨_, rfl⟩
  obtain ⟨f0, hf0⟩ : ∃ f0, enC C x false = f0 := ⟨_, rfl⟩
  obtain ⟨f1, hf1⟩ : ∃ f1, enS C x false = f1 := ⟨_, rfl⟩
  rw [ht0] at d0
  rw [ht1] at d1
  rw [hf0] at d2
  rw [hf1] at d3
  have hx : x < 2 * C.length + 1 := by omega
  cases p with
  | true =>
    have hG : (((w.alloc (.cells #[.slice a C.length cap, .int .i64 loops, .slice (some ⟨gF, 0, none⟩) (2 * C.length + 1) cF, .slice (some ⟨gT, 0, none⟩) (2 * C.length + 1) cT] 39)).alloc (.cells #[.int .i64 x, .bool true] 67)).alloc (.cells #[.int .i64 f0, .int .i64 f1] 90)).heap[w.heap.size + 1 + 1]? = some (.cells #[.int .i64 f0, .int .i64 f1] 90 (0, 0)) := alloc_at (by simp)
    have x0 := block_cell (i := 0) (v := .int .i64 f0) hG rfl
    have x1 := block_cell (i := 1) (v := .int .i64 f1) hG rfl
    have HB : Hid (Below w.heap.size w (((w.alloc (.cells #[.slice a C.length cap, .int .i64 loops, .slice (some ⟨gF, 0, none⟩) (2 * C.length + 1) cF, .slice (some ⟨gT, 0, none⟩) (2 * C.length + 1) cT] 39)).alloc (.cells #[.int .i64 x, .bool true] 67)).alloc (.cells #[.int .i64 f0, .int .i64 f1] 90))) := below3 _ _ _ _
    clear hG
    go_enter Try.func52, Try.ntmps52
    go_wp2
    exact bodyPost_ret (v := .agg #[.int .i64 f0, .int .i64 f1]) (by simp [results, Try.results52, go_sem, x0, x1]) rfl ⟨by simp [hf0, hf1], HB.out⟩
  | false =>
    have hG : (((w.alloc (.cells #[.slice a C.length cap, .int .i64 loops, .slice (some ⟨gF, 0, none⟩) (2 * C.length + 1) cF, .slice (some ⟨gT, 0, none⟩) (2 * C.length + 1) cT] 39)).alloc (.cells #[.int .i64 x, .bool false] 67)).alloc (.cells #[.int .i64 t0, .int .i64 t1] 90)).heap[w.heap.size + 1 + 1]? = some (.cells #[.int .i64 t0, .int .i64 t1] 90 (0, 0)) := alloc_at (by simp)
    have x0 := block_cell (i := 0) (v := .int .i64 t0) hG rfl
    have x1 := block_cell (i := 1) (v := .int .i64 t1) hG rfl
    have HB : Hid (Below w.heap.size w (((w.alloc (.cells #[.slice a C.length cap, .int .i64 loops, .slice (some ⟨gF, 0, none⟩) (2 * C.length + 1) cF, .slice (some ⟨gT, 0, none⟩) (2 * C.length + 1) cT] 39)).alloc (.cells #[.int .i64 x, .bool false] 67)).alloc (.cells #[.int .i64 t0, .int .i64 t1] 90))) := below3 _ _ _ _
    clear hG
    go_enter Try.func52, Try.ntmps52
    go_wp2
    exact bodyPost_ret (v := .agg #[.int .i64 t0, .int .i64 t1]) (by simp [results, Try.results52, go_sem, x0, x1]) rfl ⟨by simp [ht0, ht1], HB.out⟩

set_option maxHeartbeats 2000000 in
set_option maxRecDepth 100000 in
theorem way_any (x : Int) (p : Bool) (w : World) :
    Calls Try.prog 43 #[.agg #[.int .i64 x, .bool p]] w fun e w' => e = .returned (.int .i64 (if p = true then 1 else 0)) ∧ Below w.heap.size w w' := by
  go_enter Try.func43, Try.ntmps43
  cases p with
  | true =>
    go_wp2
    go_ret
    exact ⟨rfl, (Below.refl _ _).alloc (Nat.le_refl _) _⟩
  | false =>
    go_wp2
    go_ret
    exact ⟨rfl, (Below.refl _ _).alloc (Nat.le_refl _) _⟩

set_option maxHeartbeats 2000000 in
set_option maxRecDepth 100000 in
theorem dartCode_any (x : Nat) (p : Bool) (w : World) (hx : x ≤ 1000) :
    Calls Try.prog 37 #[.agg #[.int .i64 x, .bool p]] w fun e w' => e = .returned (.int .i64 ((if p = true then 2 * x + 1 else 2 * x : Nat) : Int)) ∧ Below w.heap.size w w' := by
  have e1 : IntKind.i64.wrap (2 * (x : Int)) = 2 * (x : Int) := IntWalk.i64_in _ (by omega)
  have e2 : IntKind.i64.wrap (2 * (x : Int) + 1) = 2 * (x : Int) + 1 := IntWalk.i64_in _ (by omega)
  go_enter Try.func37, Try.ntmps37
  cases p with
  | true =>
    go_wp2
    go_ret
    exact ⟨by simp, (Below.refl _ _).alloc (Nat.le_refl _) _⟩
  | false =>
    go_wp2
    go_ret
    exact ⟨by simp, (Below.refl _ _).alloc (Nat.le_refl _) _⟩
end Go.Proofs.Ytlcogbcpmneknaa
/- Slices as they are handed in, and copies of them. -/
namespace Go.Proofs.Ytlcogbcpmneknaa
open Go.RowKit

/-- A slice that is handed in: nil; with no element; or its cells lie there. -/
def InAt (w : World) (B size : Nat) (v : Value) (n : Nat) (xs : List Value) : Prop :=
  (v = .slice none 0 0 ∧ n = 0) ∨ (∃ ad cap, v = .slice (some ad) 0 cap ∧ n = 0) ∨ ∃ b off cap, v = .slice (some ⟨b, off, none⟩) n cap ∧ b < B ∧ ∀ j, j < n * size → w.cell? ⟨b, off + j, none⟩ = xs[j]?
theorem InAt.on {w w' : World} {B size n : Nat} {v : Value} {xs : List Value} (h : InAt w B size v n xs) (hb : Below B w w') : InAt w' B size v n xs := by
  rcases h with h | h | ⟨b, off, cap, rfl, hlt, hc⟩
  · exact Or.inl h
  · exact Or.inr (Or.inl h)
  · exact Or.inr (Or.inr ⟨b, off, cap, rfl, hlt, fun j hj => bcell hb hlt (hc j hj)⟩)
/-- append onto nil: a copy. -/
theorem wpList_append_copy {P : Program} {w : World} {ops : Array Oper} {rest : List Oper} {o : Oper} {a : Act} {Q : Exit → Act → World → Prop} (hgd : o.guard = none) (s x : Operand) (t : TypeId)
    (ho : o.op = .call { callee := .builtin .append, args := #[s, x], argTypes := #[t, t] })
    (base : Nat) (e : TypeId) (i : TypeInfo) (z : Value) (size bytes : Nat) (ht : P.underlying t = some (.slice e)) (hi : P.info? e = some i) (hz : i.zero = some z)
    (hsize : i.size = size) (hby : i.bytes = bytes) (hzs : z.cells.size = size) (hsz : 0 < size) (hs : a.eval s = .slice none 0 0)
    (v : Value) (B n : Nat) (xs : List Value) (hx : a.eval x = v) (hin : InAt w B size v n xs) (hl : xs.length = n * size) (h1 : ∀ u ∈ xs, u.oneCell' = true)
    (h63 : n ≤ maxLen) (hbytes : n * bytes ≤ 140737488355328) (hbase : base ≤ w.heap.size)
    (h : ∀ v' w', w'.ownsRow base e size v' n xs → w.grownBy w' none → wpList P ops Q rest (a.put o.dst v') w') : wpList P ops Q (o :: rest) a w := by
  rcases hin with ⟨rfl, rfl⟩ | ⟨ad, cap, rfl, rfl⟩ | ⟨b, off, cap, rfl, hlt, hc⟩
  · obtain rfl : xs = [] := List.length_eq_zero_iff.1 (by omega)
    exact wpList_append_own_none hgd s x t ho base e i size ht hi _ 0 [] hs (World.ownsRow_nil _ _ _ _) hx (h _ _ (World.ownsRow_nil _ _ _ _) (World.grownBy.refl _ _))
  · obtain rfl : xs = [] := List.length_eq_zero_iff.1 (by omega)
    exact wpList_append_own _ hgd s x t ho base e i z size bytes ht hi hz hsize hby hzs hsz _ 0 [] hs (World.ownsRow_nil _ _ _ _) ad 0 cap [] hx (by simp) (fun j u h => by simp at h) (fun u h => by simp at h) (by simp [maxLen]) (by simp) hbase
      fun v' w' g1 g2 _ => h v' w' g1 g2
  · refine wpList_append_own _ hgd s x t ho base e i z size bytes ht hi hz hsize hby hzs hsz _ 0 [] hs (World.ownsRow_nil _ _ _ _) ⟨b, off, none⟩ n cap xs hx hl (fun j u hj => ?_) h1 (by omega) (by rw [Nat.zero_add]; exact hbytes) hbase
      fun v' w' g1 g2 _ => h v' w' (by rw [Nat.zero_add, List.nil_append] at g1; exact g1) g2
    have hlt2 : j < xs.length := (List.getElem?_eq_some_iff.1 hj).1
    have := hc j (by omega)
    rw [hj] at this
    unfold Addr.add
    split
    · rename_i h0; subst h0; exact this
    · exact this
theorem InAt.up {w w' : World} {size n : Nat} {v : Value} {xs : List Value} (h : InAt w w.heap.size size v n xs) (hb : Below w.heap.size w w') : InAt w' w'.heap.size size v n xs := by
  rcases h.on hb with h | h | ⟨b, off, cap, e, hlt, hc⟩
  · exact Or.inl h
  · exact Or.inr (Or.inl h)
  · exact Or.inr (Or.inr ⟨b, off, cap, e, Nat.lt_of_lt_of_le hlt hb.size, hc⟩)
end Go.Proofs.Ytlcogbcpmneknaa
/- Plain mathematics: labels merged place by place. -/
namespace Go.Proofs.Ytlcogbcpmneknaa
open Go.RowKit

theorem cut_one {T G : Prop} (h : Hid T → G) (hT : T) : G := h hT
end Go.Proofs.Ytlcogbcpmneknaa
