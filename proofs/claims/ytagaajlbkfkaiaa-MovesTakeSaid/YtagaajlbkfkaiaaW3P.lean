/- Several texts of the proof, one behind the other. -/
import Derived.Test.YtagaajlbkfkaiaaH4P
import Derived.Lib.Hide
import Derived.Test.YtagaajlbkfkaiaaH7
import Derived.Test.YtagaajlbkfkaiaaBaseP
import Derived.Laws.AppendOwnNone
/- Lists of numbers that a call owns; the walk of Drawing.Walks. -/
namespace Go.Proofs.Ytagaajlbkfkaiaa
open Go.RowKit

/-- Numbers as cells. -/
def nats (l : List Nat) : List Value := l.map fun x => .int .i64 (x : Nat)
def bools (l : List Bool) : List Value := l.map fun x => .bool x
theorem nats_len (l : List Nat) : (nats l).length = l.length := by simp [nats]
theorem nats_get (l : List Nat) (i : Nat) (h : i < l.length) : (nats l)[i]? = some (.int .i64 (l.getD i 0 : Nat)) := by simp [nats, List.getD, h]
theorem bools_get (l : List Bool) (i : Nat) (h : i < l.length) : (bools l)[i]? = some (.bool (l.getD i true)) := by simp [bools, List.getD, h]
theorem bools_set (l : List Bool) (i : Nat) (b : Bool) : (bools l).set i (.bool b) = bools (l.set i b) := by simp [bools, List.map_set]
theorem nats_app (l : List Nat) (x : Nat) : nats (l ++ [x]) = nats l ++ [.int .i64 (x : Nat)] := by simp [nats]
/-- A list of lists of numbers that a call itself owns. -/
def NatsOwn (w : World) (B : Nat) (v : Value) (L : List (List Nat)) : Prop :=
  ∃ ys : List Value, ys.length = L.length ∧ w.ownsRow B 46 1 v ys.length ys ∧ ∀ j, j < L.length → w.ownsRow B 3 1 (ys.getD j (.bool false)) (L.getD j []).length (nats (L.getD j []))
theorem NatsOwn.any {w w' : World} {B : Nat} {v : Value} {L : List (List Nat)} (h : NatsOwn w B v L) (hg : w.grownBy w' none) : NatsOwn w' B v L := by
  obtain ⟨ys, h1, h2, h3⟩ := h
  exact ⟨ys, h1, own_any h2 hg, fun j hj => own_any (h3 j hj) hg⟩
theorem NatsOwn.low {w : World} {B B' : Nat} {v : Value} {L : List (List Nat)} (h : NatsOwn w B v L) (hB : B' ≤ B) : NatsOwn w B' v L := by
  obtain ⟨ys, h1, h2, h3⟩ := h
  exact ⟨ys, h1, own_low h2 hB, fun j hj => own_low (h3 j hj) hB⟩
theorem grown_none {w w' : World} {row : Option Nat} (h : w.grownBy w' none) : w.grownBy w' row := ⟨h.os, h.tape, h.output, h.size, fun k hk _ => h.block k hk (by simp)⟩
theorem grown_new {W X Y : World} {row r2 : Option Nat} (h : W.grownBy X row) (g : X.grownBy Y r2) (hr : ∀ k, r2 = some k → W.heap.size ≤ k) : W.grownBy Y row :=
  ⟨g.os.trans h.os, g.tape.trans h.tape, g.output.trans h.output, Nat.le_trans h.size g.size, fun k hk hn => (g.block k (Nat.lt_of_lt_of_le hk h.size) (fun e => by have := hr k e.symm; omega)).trans (h.block k hk hn)⟩
def lenOf : Value → Nat
  | .slice _ n _ => n
  | _ => 0
theorem infoInt : (Try.prog.info? 3).map (fun i => (i.zero, i.size, i.bytes)) = some (some (.int .i64 0), 1, 8) := by kernel_rfl
theorem infoBool : (Try.prog.info? 4).map (fun i => (i.zero, i.size, i.bytes)) = some (some (.bool false), 1, 1) := by kernel_rfl
theorem made_false (n : Nat) : (madeCells (Value.bool false).cells (n * 1)).toList = bools (List.replicate n false) := by
  have e : (Value.bool false).cells = #[Value.bool false] := rfl
  rw [e, toList_madeCells_one, Nat.mul_one]
  simp [bools]

theorem walksTo_next {f : Nat → Nat} {n i : Nat} {acc : List Nat} {seen : List Bool} (h : walkF f (n + 1) (walksTo f n i).2 (i + 1) [] = (acc, seen)) : walksTo f n (i + 1) = (if acc = [] then (walksTo f n i).1 else (walksTo f n i).1 ++ [acc], seen) := by
  simp only [walksTo]
  rw [h]

end Go.Proofs.Ytagaajlbkfkaiaa
/- Plain mathematics: overpasses; labels that are merged edge by edge come to the least of what is joined. -/
namespace Go.Proofs.Ytagaajlbkfkaiaa

/-- Two labels made one: the higher is called as the lower. -/
def mer (W : List Nat) (x y : Nat) : List Nat := W.map fun z => if z = max (W.getD x 0) (W.getD y 0) then min (W.getD x 0) (W.getD y 0) else z
theorem mer_len (W : List Nat) (x y : Nat) : (mer W x y).length = W.length := by simp [mer]
theorem mer_at (W : List Nat) (x y v : Nat) (hv : v < W.length) : (mer W x y).getD v 0 = if W.getD v 0 = max (W.getD x 0) (W.getD y 0) then min (W.getD x 0) (W.getD y 0) else W.getD v 0 := by
  simp [mer, List.getD_eq_getElem?_getD, hv]
theorem mer_least {F : List (Nat × Nat)} {n : Nat} {W : List Nat} (h : Least F n W) (x y : Nat) (hx : x < n) (hy : y < n) (hF : ∀ e, e ∈ F → e.1 < n ∧ e.2 < n) : Least (F ++ [(x, y)]) n (mer W x y) := by
  obtain ⟨hl, h2⟩ := h
  have up : ∀ {u v : Nat}, Con F u v → Con (F ++ [(x, y)]) u v := fun hc S hS hu => hc S (fun e he => hS e (List.mem_append_left _ he)) hu
  have hxy : Con (F ++ [(x, y)]) x y := Con.edge (List.mem_append_right _ (List.Mem.head _))
  have lx := up (h2 x hx).1
  have ly := up (h2 y hy).1
  have hWW : Con (F ++ [(x, y)]) (W.getD x 0) (W.getD y 0) := lx.symm.trans (hxy.trans ly)
  have hmm : Con (F ++ [(x, y)]) (max (W.getD x 0) (W.getD y 0)) (min (W.getD x 0) (W.getD y 0)) := by
    rcases Nat.le_total (W.getD x 0) (W.getD y 0) with hle | hle
    · rw [Nat.max_eq_right hle, Nat.min_eq_left hle]; exact hWW.symm
    · rw [Nat.max_eq_left hle, Nat.min_eq_right hle]; exact hWW
  have hcon : ∀ v, v < n → Con (F ++ [(x, y)]) v ((mer W x y).getD v 0) := fun v hv => by
    rw [mer_at W x y v (by omega)]
    split
    · rename_i he
      have := up (h2 v hv).1
      rw [he] at this
      exact this.trans hmm
    · exact up (h2 v hv).1
  have hle : ∀ v, v < n → (mer W x y).getD v 0 ≤ v := fun v hv => by
    have h3 := (h2 v hv).2 v (Con.refl F v)
    rw [mer_at W x y v (by omega)]
    split
    · rename_i he; omega
    · exact h3
  refine ⟨by rw [mer_len]; exact hl, fun v hv => ⟨hcon v hv, fun u hu => ?_⟩⟩
  have hcl : Closed (F ++ [(x, y)]) (fun z => z < n ∧ (mer W x y).getD z 0 = (mer W x y).getD v 0) := fun e he => by
    rcases List.mem_append.1 he with h4 | h4
    · obtain ⟨e1, e2⟩ := hF e h4
      have hs : W.getD e.1 0 = W.getD e.2 0 := by
        have c : Con F e.1 e.2 := Con.edge (by cases e; exact h4)
        exact Nat.le_antisymm ((h2 _ e1).2 _ (c.trans (h2 _ e2).1)) ((h2 _ e2).2 _ (c.symm.trans (h2 _ e1).1))
      have hm : (mer W x y).getD e.1 0 = (mer W x y).getD e.2 0 := by
        rw [mer_at W x y _ (by omega), mer_at W x y _ (by omega), hs]
      show (e.1 < n ∧ (mer W x y).getD e.1 0 = _) ↔ (e.2 < n ∧ (mer W x y).getD e.2 0 = _)
      rw [hm]; exact ⟨fun q => ⟨e2, q.2⟩, fun q => ⟨e1, q.2⟩⟩
    · have : e = (x, y) := by simpa using h4
      subst this
      have hm : (mer W x y).getD x 0 = (mer W x y).getD y 0 := by
        rw [mer_at W x y _ (by omega), mer_at W x y _ (by omega)]
        split <;> split <;> omega
      show (x < n ∧ (mer W x y).getD x 0 = _) ↔ (y < n ∧ (mer W x y).getD y 0 = _)
      rw [hm]; exact ⟨fun q => ⟨hy, q.2⟩, fun q => ⟨hx, q.2⟩⟩
  obtain ⟨a1, a2⟩ := hu _ hcl ⟨hv, rfl⟩
  rw [← a2]
  exact hle u a1
def mers (W : List Nat) : List (Nat × Nat) → List Nat
  | [] => W
  | e :: E => mers (mer W e.1 e.2) E
theorem mers_app (W : List Nat) (E F : List (Nat × Nat)) : mers W (E ++ F) = mers (mers W E) F := by
  induction E generalizing W with
  | nil => rfl
  | cons e E ih => exact ih _
theorem least_nil (n : Nat) : Least [] n (List.range n) := by
  refine ⟨by simp, fun v hv => ?_⟩
  have e : (List.range n).getD v 0 = v := by simp [List.getD_eq_getElem?_getD, hv]
  rw [e]
  exact ⟨Con.refl _ v, fun u hu => by
    have := hu (fun z => z = v) (fun e he => by cases he) rfl
    omega⟩
theorem mers_least (n : Nat) : ∀ (E F : List (Nat × Nat)) (W : List Nat), (∀ e, e ∈ F ++ E → e.1 < n ∧ e.2 < n) → Least F n W → Least (F ++ E) n (mers W E) := by
  intro E
  induction E with
  | nil => intro F W _ h; simpa [mers] using h
  | cons e E ih =>
    intro F W hE h
    obtain ⟨e1, e2⟩ := hE e (by simp)
    have h' := mer_least h e.1 e.2 e1 e2 (fun f hf => hE f (List.mem_append_left _ hf))
    have := ih (F ++ [(e.1, e.2)]) _ (fun f hf => hE f (by simpa using hf)) h'
    simpa [mers] using this

/-- The lowest of an overpass is the lowest of its own. -/
theorem Least.root {E : List (Nat × Nat)} {n : Nat} {W : List Nat} (h : Least E n W) {v : Nat} (hv : v < n) : W.getD (W.getD v 0) 0 = W.getD v 0 := (h.same (h.lt hv) hv).2 (h.2 v hv).1.symm
theorem Least.le {E : List (Nat × Nat)} {n : Nat} {W : List Nat} (h : Least E n W) {v : Nat} (hv : v < n) : W.getD v 0 ≤ v := (h.2 v hv).2 v (Con.refl E v)
theorem Least.pos {E : List (Nat × Nat)} {n : Nat} {W : List Nat} (h : Least E n W) (hE : ∀ e, e ∈ E → 1 ≤ e.1 ∧ 1 ≤ e.2) {v : Nat} (hv : v < n) (h1 : 1 ≤ v) : 1 ≤ W.getD v 0 := by
  have := (h.2 v hv).1 (fun z => 1 ≤ z) (fun e he => by simp [hE e he]) h1
  exact this
end Go.Proofs.Ytagaajlbkfkaiaa
/- Plain mathematics: labels merged place by place. -/
namespace Go.Proofs.Ytagaajlbkfkaiaa
open Go.RowKit

theorem cut_one {T G : Prop} (h : Hid T → G) (hT : T) : G := h hT
/-- Merged in the first k places. -/
def merTo (W : List Nat) (x y k : Nat) : List Nat := (List.range W.length).map fun v => if v < k then (mer W x y).getD v 0 else W.getD v 0
theorem merTo_len (W : List Nat) (x y k : Nat) : (merTo W x y k).length = W.length := by simp [merTo]
theorem merTo_at (W : List Nat) (x y k v : Nat) (hv : v < W.length) : (merTo W x y k).getD v 0 = if v < k then (mer W x y).getD v 0 else W.getD v 0 := by simp [merTo, List.getD_eq_getElem?_getD, hv]
theorem getD_ext {l m : List Nat} (h : l.length = m.length) (g : ∀ v, v < l.length → l.getD v 0 = m.getD v 0) : l = m := by
  refine List.ext_getElem h fun i h1 h2 => ?_
  have := g i h1
  simpa [List.getD_eq_getElem?_getD, h1, h2] using this
theorem merTo_zero (W : List Nat) (x y : Nat) : merTo W x y 0 = W := getD_ext (merTo_len _ _ _ _) fun v hv => by
  rw [merTo_len] at hv; rw [merTo_at _ _ _ _ _ hv, if_neg (by omega)]
theorem merTo_all (W : List Nat) (x y : Nat) : merTo W x y W.length = mer W x y := getD_ext (by rw [merTo_len, mer_len]) fun v hv => by
  rw [merTo_len] at hv; rw [merTo_at _ _ _ _ _ hv, if_pos hv]
theorem merTo_next (W : List Nat) (x y k z : Nat) (hk : k < W.length) (hz : (mer W x y).getD k 0 = z) : (merTo W x y k).set k z = merTo W x y (k + 1) := getD_ext (by simp [merTo_len]) fun v hv => by
  have hv' : v < W.length := by simpa [merTo_len] using hv
  rw [getD_set _ _ _ _ (by rw [merTo_len]; exact hk), merTo_at _ _ _ _ _ hv', merTo_at _ _ _ _ _ hv']
  by_cases e : v = k
  · subst e; rw [if_pos rfl, if_pos (by omega), hz]
  · rw [if_neg e]
    by_cases h2 : v < k
    · rw [if_pos h2, if_pos (by omega)]
    · rw [if_neg h2, if_neg (by omega)]
theorem merTo_same (W : List Nat) (x y k : Nat) (hk : k < W.length) (hz : (mer W x y).getD k 0 = W.getD k 0) : merTo W x y k = merTo W x y (k + 1) := getD_ext (by simp [merTo_len]) fun v hv => by
  have hv' : v < W.length := by simpa [merTo_len] using hv
  rw [merTo_at _ _ _ _ _ hv', merTo_at _ _ _ _ _ hv']
  by_cases e : v = k
  · subst e; rw [if_neg (by omega), if_pos (by omega), hz]
  · by_cases h2 : v < k
    · rw [if_pos h2, if_pos (by omega)]
    · rw [if_neg h2, if_neg (by omega)]
theorem mers_len (E : List (Nat × Nat)) : ∀ W : List Nat, (mers W E).length = W.length := by
  induction E with
  | nil => intro W; rfl
  | cons e E ih => intro W; rw [mers, ih, mer_len]
end Go.Proofs.Ytagaajlbkfkaiaa
/- The walks of ref.DiagramOf and gauss.Strands; rows that are the same. -/
namespace Go.Proofs.Ytagaajlbkfkaiaa
open Go.RowKit

/-- The crossings as cells, one behind the other. -/
def crossCells (C : List Cr) : List Value := C.flatMap fun x => [.int .i64 x.a, .int .i64 x.b, .int .i64 x.c, .int .i64 x.d, .bool x.plus]
theorem cells_length (C : List Cr) : (crossCells C).length = C.length * 5 := by
  induction C with
  | nil => rfl
  | cons t l ih => simp [crossCells] at *; omega
theorem cells_get (C : List Cr) (i : Nat) (hi : i < C.length) : (crossCells C)[i * 5]? = some (.int .i64 (C.getD i Cr.none).a) ∧ (crossCells C)[i * 5 + 1]? = some (.int .i64 (C.getD i Cr.none).b) ∧ (crossCells C)[i * 5 + 2]? = some (.int .i64 (C.getD i Cr.none).c) ∧ (crossCells C)[i * 5 + 3]? = some (.int .i64 (C.getD i Cr.none).d) ∧ (crossCells C)[i * 5 + 4]? = some (.bool (C.getD i Cr.none).plus) := by
  induction C generalizing i with
  | nil => simp at hi
  | cons t l ih =>
    have e : crossCells (t :: l) = .int .i64 t.a :: .int .i64 t.b :: .int .i64 t.c :: .int .i64 t.d :: .bool t.plus :: crossCells l := rfl
    cases i with
    | zero => rw [e]; exact ⟨rfl, rfl, rfl, rfl, rfl⟩
    | succ i =>
      have := ih i (by simpa using hi)
      have e1 : (i + 1) * 5 = i * 5 + 1 + 1 + 1 + 1 + 1 := by omega
      rw [e, e1]
      exact this
theorem cells_one (C : List Cr) : ∀ u ∈ crossCells C, u.oneCell' = true := by
  intro u hu
  simp only [crossCells, List.mem_flatMap] at hu
  obtain ⟨t, _, ht⟩ := hu
  simp at ht
  rcases ht with rfl | rfl | rfl | rfl | rfl <;> rfl
theorem cells_at {w : World} {b off : Nat} {C : List Cr} (h : CrossAt w b off C) : ∀ j u, (crossCells C)[j]? = some u → w.cell? ((⟨b, off, none⟩ : Addr).add j) = some u := by
  intro j u hj
  have hlt : j < (crossCells C).length := by
    rcases Nat.lt_or_ge j (crossCells C).length with h | h
    · exact h
    · rw [List.getElem?_eq_none h] at hj; cases hj
  rw [cells_length] at hlt
  have hi : j / 5 < C.length := by omega
  have g := cells_get C (j / 5) hi
  have c := h (j / 5) hi
  rw [Addr.add_lit]
  have h5 : j % 5 = 0 ∨ j % 5 = 1 ∨ j % 5 = 2 ∨ j % 5 = 3 ∨ j % 5 = 4 := by omega
  rcases h5 with e | e | e | e | e
  · rw [show j / 5 * 5 = j by omega] at g c
    rw [g.1] at hj
    rw [← hj]
    exact c.1
  · rw [show j / 5 * 5 + 1 = j by omega] at g
    rw [show off + j / 5 * 5 + 1 = off + j by omega] at c
    rw [g.2.1] at hj
    rw [← hj]
    exact c.2.1
  · rw [show j / 5 * 5 + 2 = j by omega] at g
    rw [show off + j / 5 * 5 + 2 = off + j by omega] at c
    rw [g.2.2.1] at hj
    rw [← hj]
    exact c.2.2.1
  · rw [show j / 5 * 5 + 3 = j by omega] at g
    rw [show off + j / 5 * 5 + 3 = off + j by omega] at c
    rw [g.2.2.2.1] at hj
    rw [← hj]
    exact c.2.2.2.1
  · rw [show j / 5 * 5 + 4 = j by omega] at g
    rw [show off + j / 5 * 5 + 4 = off + j by omega] at c
    rw [g.2.2.2.2] at hj
    rw [← hj]
    exact c.2.2.2.2
theorem crs_own {w : World} {B e : Nat} {v : Value} {C : List Cr} (h : w.ownsRow B e 5 v C.length (crossCells C)) (hn : C.length ≤ maxLen) : Crs w w.heap.size v C := by
  have h0 := h
  rcases h.2 with ⟨rfl, h1⟩ | ⟨g, cap, cur, rfl, _, _, _⟩
  · exact ⟨none, 0, by rw [h1], hn, fun hp => by omega⟩
  · refine ⟨some ⟨g, 0, none⟩, cap, rfl, hn, fun _ => ⟨g, 0, rfl, (h0.lt g rfl).2, fun i hi => ?_⟩⟩
    have g0 := cells_get C i hi
    rw [Nat.zero_add]
    exact ⟨(h0.cellAt (i * 5) (by omega)).trans g0.1, (h0.cellAt (i * 5 + 1) (by omega)).trans g0.2.1, (h0.cellAt (i * 5 + 2) (by omega)).trans g0.2.2.1, (h0.cellAt (i * 5 + 3) (by omega)).trans g0.2.2.2.1, (h0.cellAt (i * 5 + 4) (by omega)).trans g0.2.2.2.2⟩
/-- A slice of crossings as it is handed in. -/
def CrsW (w : World) (B : Nat) (v : Value) (C : List Cr) : Prop :=
  (v = .slice none 0 0 ∧ C = []) ∨ (∃ ad cap, v = .slice (some ad) 0 cap ∧ C = []) ∨ ∃ b off cap, v = .slice (some ⟨b, off, none⟩) C.length cap ∧ b < B ∧ CrossAt w b off C
theorem CrsW.crs {w : World} {B : Nat} {v : Value} {C : List Cr} (h : CrsW w B v C) (hn : C.length ≤ maxLen) : Crs w B v C := by
  rcases h with ⟨rfl, rfl⟩ | ⟨ad, cap, rfl, rfl⟩ | ⟨b, off, cap, rfl, hlt, hC⟩
  · exact ⟨none, 0, rfl, hn, fun hp => by simp at hp⟩
  · exact ⟨some ad, cap, rfl, hn, fun hp => by simp at hp⟩
  · exact ⟨some ⟨b, off, none⟩, cap, rfl, hn, fun _ => ⟨b, off, rfl, hlt, hC⟩⟩
theorem CrsW.up {w w' : World} {v : Value} {C : List Cr} (h : CrsW w w.heap.size v C) (hb : Below w.heap.size w w') : CrsW w' w'.heap.size v C := by
  rcases h with h | h | ⟨b, off, cap, hv, hlt, hC⟩
  · exact Or.inl h
  · exact Or.inr (Or.inl h)
  · exact Or.inr (Or.inr ⟨b, off, cap, hv, Nat.lt_of_lt_of_le hlt hb.size, hC.on hb hlt⟩)
theorem infoCross : (Try.prog.info? 71).map (fun i => (i.zero, i.size, i.bytes)) = some (some (.agg #[.int .i64 0, .int .i64 0, .int .i64 0, .int .i64 0, .bool false]), 5, 40) := by kernel_rfl

set_option maxHeartbeats 2000000 in
set_option maxRecDepth 100000 in
theorem diagramOf_any (v : Value) (C : List Cr) (loops : Int) (w : World) (hl : C.length * 40 ≤ 140737488355328) (h : CrsW w w.heap.size v C) :
    Calls Try.prog 10 #[.agg #[v, .int .i64 loops]] w fun e w' => ∃ v', e = .returned (.agg #[v', .int .i64 loops]) ∧ Crs w' w'.heap.size v' C ∧ Below w.heap.size w w' := by
  obtain ⟨i0, hi, hz0, hz1, hz2⟩ := info_parts infoCross
  have hm : C.length ≤ maxLen := by unfold maxLen; omega
  obtain ⟨w0, hw0⟩ : ∃ w0, w0 = (w.alloc (.cells #[v, .int .i64 loops] 24)).alloc (.cells #[.slice none 0 0, .int .i64 0] 24) := ⟨_, rfl⟩
  have HW0 : Hid (w0 = (w.alloc (.cells #[v, .int .i64 loops] 24)).alloc (.cells #[.slice none 0 0, .int .i64 0] 24)) := hw0
  have hs0 : w0.heap.size = w.heap.size + 2 := by rw [hw0]; simp
  have HB0 : Hid (Below w.heap.size w w0) := (by rw [hw0]; exact below2 _ _ _ : Below w.heap.size w w0)
  clear hw0
  rcases h with ⟨rfl, rfl⟩ | ⟨ad, cap, rfl, rfl⟩ | ⟨b, off, cap, rfl, hlt, hC⟩
  · go_enter Try.func10, Try.ntmps10
    go_wp2_with (at_builtin; refine wpList_append_own_none rfl _ _ 22 rfl w.heap.size 71 i0 5 Try.underlying22 hi _ 0 [] rfl (World.ownsRow_nil _ _ _ _) rfl ?_)
    exact bodyPost_ret (v := .agg #[.slice none 0 0, .int .i64 loops]) (by simp [results, Try.results10, go_sem]) rfl ⟨_, rfl, ⟨none, 0, rfl, hm, fun hp => by simp at hp⟩, below2 _ _ _⟩
  · have c0 : w0.heap[w.heap.size]? = some (.cells #[.slice (some ad) 0 cap, .int .i64 loops] 24 (0, 0)) := by rw [HW0.out]; exact alloc_old (alloc_at rfl)
    have c1 : w0.heap[w.heap.size + 1]? = some (.cells #[.slice none 0 0, .int .i64 0] 24 (0, 0)) := by rw [HW0.out]; exact alloc_at (by simp)
    have HC0 : Hid (w0.heap[w.heap.size]? = some (.cells #[.slice (some ad) 0 cap, .int .i64 loops] 24 (0, 0))) := c0
    have HC1 : Hid (w0.heap[w.heap.size + 1]? = some (.cells #[.slice none 0 0, .int .i64 0] 24 (0, 0))) := c1
    clear c0 c1
    go_enter Try.func10, Try.ntmps10
    go_wp2_with (at_builtin; refine wpList_append_own _ rfl _ _ 22 rfl (w.heap.size + 2) 71 i0 (.agg #[.int .i64 0, .int .i64 0, .int .i64 0, .int .i64 0, .bool false]) 5 40 Try.underlying22 hi hz0 hz1 hz2 rfl (by decide) _ 0 [] rfl (World.ownsRow_nil _ _ _ _) ad 0 cap [] rfl rfl (fun j u h => by simp at h) (fun u h => by simp at h) (by decide) (by decide) (by simp) ?_; intro v' w1 hown hgr _; refine Hid.out ?_)
    refine Lib.hid ?_
    rw [← HW0.out] at hgr
    have HGR : Hid (w0.grownBy w1 none) := hgr
    have HOW : Hid (w1.ownsRow (w.heap.size + 2) 71 5 v' (0 + 0) ([] ++ [])) := hown
    obtain ⟨a', c', rfl⟩ := own_capS hown
    have hs1 := hgr.size
    clear hown hgr
    have hg0 := (HGR.out.block _ (by omega) (by simp)).trans HC0.out
    have hg1 := (HGR.out.block _ (by omega) (by simp)).trans HC1.out
    have p0 : w1.cell? ⟨w.heap.size, 0, none⟩ = some (.slice (some ad) 0 cap) := block_cell hg0 rfl
    have p1 : w1.cell? ⟨w.heap.size, 1, none⟩ = some (.int .i64 loops) := block_cell hg0 rfl
    have p2 : w1.cell? ⟨w.heap.size + 1, 0, none⟩ = some (.slice none 0 0) := block_cell hg1 rfl
    have p3 : w1.cell? ⟨w.heap.size + 1, 1, none⟩ = some (.int .i64 0) := block_cell hg1 rfl
    have f0 : w1.frozen? ⟨w.heap.size, 0, none⟩ = false := block_frozen hg0
    have f2 : w1.frozen? ⟨w.heap.size + 1, 0, none⟩ = false := block_frozen hg1
    have f3 : w1.frozen? ⟨w.heap.size + 1, 1, none⟩ = false := block_frozen hg1
    have HG1 : Hid (w1.heap[w.heap.size + 1]? = some (.cells #[.slice none 0 0, .int .i64 0] 24 (0, 0))) := hg1
    clear hg0 hg1
    go_wp2
    have hq0 := ((set_grown w1 w.heap.size 0 (.slice a' 0 c')).block (w.heap.size + 1) (by omega) (fun e => by have := Option.some.inj e; omega)).trans HG1.out
    have hq := set_block (i := 1) (u := .int .i64 loops) (set_block (i := 0) (u := .slice a' 0 c') hq0)
    have x0 := block_cell (i := 0) (v := .slice a' 0 c') hq rfl
    have x1 := block_cell (i := 1) (v := .int .i64 loops) hq rfl
    have hk1 := HOW.out.kept (set_grown w1 w.heap.size 0 (.slice a' 0 c')) (by rcases HOW.out.2 with ⟨e, _⟩ | ⟨g, cp, cu, e, hg, _⟩ <;> injection e with e1 e2 e3 <;> subst e1 <;> first | exact Or.inl rfl | (refine Or.inr (fun e => ?_); have : g = w.heap.size := Option.some.inj e; omega))
    have hk2 := hk1.kept (st2_grown (w1.setCell ⟨w.heap.size, 0, none⟩ (.slice a' 0 c')) (w.heap.size + 1) 0 (.slice a' 0 c') (.int .i64 loops)) (by rcases HOW.out.2 with ⟨e, _⟩ | ⟨g, cp, cu, e, hg, _⟩ <;> injection e with e1 e2 e3 <;> subst e1 <;> first | exact Or.inl rfl | (refine Or.inr (fun e => ?_); have : g = w.heap.size + 1 := Option.some.inj e; omega))
    refine bodyPost_ret (v := .agg #[.slice a' 0 c', .int .i64 loops]) (by simp [results, Try.results10, go_sem, x0, x1]) rfl ⟨_, rfl, ?_, ?_⟩
    · rw [Nat.zero_add, List.nil_append] at hk2
      exact crs_own (C := []) hk2 hm
    · exact ((HB0.out.grown HGR.out (by omega) (fun k hk => by cases hk)).grown (set_grown w1 w.heap.size 0 (.slice a' 0 c')) (by omega) (fun k hk => by have := Option.some.inj hk; omega)).grown (st2_grown (w1.setCell ⟨w.heap.size, 0, none⟩ (.slice a' 0 c')) (w.heap.size + 1) 0 (.slice a' 0 c') (.int .i64 loops)) (by simp; omega) (fun k hk => by have := Option.some.inj hk; omega)
  · have c0 : w0.heap[w.heap.size]? = some (.cells #[.slice (some ⟨b, off, none⟩) C.length cap, .int .i64 loops] 24 (0, 0)) := by rw [HW0.out]; exact alloc_old (alloc_at rfl)
    have c1 : w0.heap[w.heap.size + 1]? = some (.cells #[.slice none 0 0, .int .i64 0] 24 (0, 0)) := by rw [HW0.out]; exact alloc_at (by simp)
    have HC0 : Hid (w0.heap[w.heap.size]? = some (.cells #[.slice (some ⟨b, off, none⟩) C.length cap, .int .i64 loops] 24 (0, 0))) := c0
    have HC1 : Hid (w0.heap[w.heap.size + 1]? = some (.cells #[.slice none 0 0, .int .i64 0] 24 (0, 0))) := c1
    clear c0 c1
    have HCA : Hid (CrossAt ((w.alloc (.cells #[.slice (some ⟨b, off, none⟩) C.length cap, .int .i64 loops] 24)).alloc (.cells #[.slice none 0 0, .int .i64 0] 24)) b off C) := hC.on (below2 _ _ _) hlt
    clear hC
    go_enter Try.func10, Try.ntmps10
    go_wp2_with (at_builtin; refine wpList_append_own _ rfl _ _ 22 rfl (w.heap.size + 2) 71 i0 (.agg #[.int .i64 0, .int .i64 0, .int .i64 0, .int .i64 0, .bool false]) 5 40 Try.underlying22 hi hz0 hz1 hz2 rfl (by decide) _ 0 [] rfl (World.ownsRow_nil _ _ _ _) ⟨b, off, none⟩ C.length cap (crossCells C) rfl (cells_length C) (cells_at HCA.out) (cells_one C) (by unfold maxLen; omega) (by omega) (by simp) ?_; intro v' w1 hown hgr _; refine Hid.out ?_)
    refine Lib.hid ?_
    rw [← HW0.out] at hgr
    have HGR : Hid (w0.grownBy w1 none) := hgr
    have HOW : Hid (w1.ownsRow (w.heap.size + 2) 71 5 v' (0 + C.length) ([] ++ (crossCells C))) := hown
    obtain ⟨a', c', rfl⟩ := own_capS hown
    have hs1 := hgr.size
    clear hown hgr
    have hg0 := (HGR.out.block _ (by omega) (by simp)).trans HC0.out
    have hg1 := (HGR.out.block _ (by omega) (by simp)).trans HC1.out
    have p0 : w1.cell? ⟨w.heap.size, 0, none⟩ = some (.slice (some ⟨b, off, none⟩) C.length cap) := block_cell hg0 rfl
    have p1 : w1.cell? ⟨w.heap.size, 1, none⟩ = some (.int .i64 loops) := block_cell hg0 rfl
    have p2 : w1.cell? ⟨w.heap.size + 1, 0, none⟩ = some (.slice none 0 0) := block_cell hg1 rfl
    have p3 : w1.cell? ⟨w.heap.size + 1, 1, none⟩ = some (.int .i64 0) := block_cell hg1 rfl
    have f0 : w1.frozen? ⟨w.heap.size, 0, none⟩ = false := block_frozen hg0
    have f2 : w1.frozen? ⟨w.heap.size + 1, 0, none⟩ = false := block_frozen hg1
    have f3 : w1.frozen? ⟨w.heap.size + 1, 1, none⟩ = false := block_frozen hg1
    have HG1 : Hid (w1.heap[w.heap.size + 1]? = some (.cells #[.slice none 0 0, .int .i64 0] 24 (0, 0))) := hg1
    clear hg0 hg1
    go_wp2
    have hq0 := ((set_grown w1 w.heap.size 0 (.slice a' C.length c')).block (w.heap.size + 1) (by omega) (fun e => by have := Option.some.inj e; omega)).trans HG1.out
    have hq := set_block (i := 1) (u := .int .i64 loops) (set_block (i := 0) (u := .slice a' C.length c') hq0)
    have x0 := block_cell (i := 0) (v := .slice a' C.length c') hq rfl
    have x1 := block_cell (i := 1) (v := .int .i64 loops) hq rfl
    have hk1 := HOW.out.kept (set_grown w1 w.heap.size 0 (.slice a' C.length c')) (by rcases HOW.out.2 with ⟨e, _⟩ | ⟨g, cp, cu, e, hg, _⟩ <;> injection e with e1 e2 e3 <;> subst e1 <;> first | exact Or.inl rfl | (refine Or.inr (fun e => ?_); have : g = w.heap.size := Option.some.inj e; omega))
    have hk2 := hk1.kept (st2_grown (w1.setCell ⟨w.heap.size, 0, none⟩ (.slice a' C.length c')) (w.heap.size + 1) 0 (.slice a' C.length c') (.int .i64 loops)) (by rcases HOW.out.2 with ⟨e, _⟩ | ⟨g, cp, cu, e, hg, _⟩ <;> injection e with e1 e2 e3 <;> subst e1 <;> first | exact Or.inl rfl | (refine Or.inr (fun e => ?_); have : g = w.heap.size + 1 := Option.some.inj e; omega))
    refine bodyPost_ret (v := .agg #[.slice a' C.length c', .int .i64 loops]) (by simp [results, Try.results10, go_sem, x0, x1]) rfl ⟨_, rfl, ?_, ?_⟩
    · rw [Nat.zero_add, List.nil_append] at hk2
      exact crs_own (C := C) hk2 hm
    · exact ((HB0.out.grown HGR.out (by omega) (fun k hk => by cases hk)).grown (set_grown w1 w.heap.size 0 (.slice a' C.length c')) (by omega) (fun k hk => by have := Option.some.inj hk; omega)).grown (st2_grown (w1.setCell ⟨w.heap.size, 0, none⟩ (.slice a' C.length c')) (w.heap.size + 1) 0 (.slice a' C.length c') (.int .i64 loops)) (by simp; omega) (fun k hk => by have := Option.some.inj hk; omega)

theorem own_terms {w : World} {B e n g c : Nat} {l : List (Int × Int)} (h : w.ownsRow B e 2 (.slice (some ⟨g, 0, none⟩) n c) n (flat l)) (hl : l.length = n) : TermsAt w g 0 l := by
  intro i hi
  have g0 := flat_get l i hi
  rw [Nat.zero_add]
  exact ⟨(h.cellAt (i * 2) (by omega)).trans g0.1, (h.cellAt (i * 2 + 1) (by omega)).trans g0.2⟩
/-- What drawing.Of answered is a drawing. -/
theorem Drawn.dr {w w' : World} {a : Option Addr} {cap : Nat} {loops : Int} {C : List Cr} {D : Value} (h : Drawn w w' w.heap.size (.slice a C.length cap) loops C D) (hm : mayD C loops = true) (hb : Below w.heap.size w w') (hC : Crs w w.heap.size (.slice a C.length cap) C) :
    ∃ gF cF gT cT, D = drV a cap C loops gF cF gT cT ∧ Dr w' a cap C gF gT := by
  obtain ⟨gF, cF, gT, cT, rfl, h1, h2⟩ := h.yes hm
  exact ⟨gF, cF, gT, cT, rfl, hC.up hb, (h1.lt gF rfl).2, (h2.lt gT rfl).2, own_terms h1 (ends_length _ _ _ _), own_terms h2 (ends_length _ _ _ _)⟩

end Go.Proofs.Ytagaajlbkfkaiaa
/- The walks of Drawing.End, Drawing.Onward, way; ref.dartCode, ref.NextDart. -/
namespace Go.Proofs.Ytagaajlbkfkaiaa
open Go.RowKit

theorem Dr.endAt {w : World} {a : Option Addr} {cap : Nat} {C : List Cr} {gF gT : Nat} {loops : Int} (h : Dr w a cap C gF gT) (hm : mayD C loops = true) (x : Nat) (h1 : 1 ≤ x) (h2 : x ≤ 2 * C.length) :
    w.cell? ⟨gT, x * 2, none⟩ = some (.int .i64 (enC C x true : Nat)) ∧ w.cell? ⟨gT, x * 2 + 1, none⟩ = some (.int .i64 (enS C x true : Nat)) ∧ w.cell? ⟨gF, x * 2, none⟩ = some (.int .i64 (enC C x false : Nat)) ∧ w.cell? ⟨gF, x * 2 + 1, none⟩ = some (.int .i64 (enS C x false : Nat)) := by
  have hT := h.to x (by rw [ends_length]; omega)
  have hF := h.from_ x (by rw [ends_length]; omega)
  rw [ends_at C true C.length 0 x h1 h2, Nat.zero_add] at hT
  rw [ends_at C false C.length 0 x h1 h2, Nat.zero_add] at hF
  have e : endAh C x true C.length 0 = endTo C x true C.length := rfl
  have e2 : endAh C x false C.length 0 = endTo C x false C.length := rfl
  rw [e, (en_may hm x true h1 h2).1] at hT
  rw [e2, (en_may hm x false h1 h2).1] at hF
  exact ⟨hT.1, hT.2, hF.1, hF.2⟩

set_option maxHeartbeats 2000000 in
set_option maxRecDepth 100000 in
theorem end_any (a : Option Addr) (cap : Nat) (C : List Cr) (loops : Int) (gF cF gT cT : Nat) (x : Nat) (p : Bool) (w : World) (hm : mayD C loops = true) (h1 : 1 ≤ x) (h2 : x ≤ 2 * C.length) (hD : Dr w a cap C gF gT) :
    Calls Try.prog 78 #[drV a cap C loops gF cF gT cT, .agg #[.int .i64 x, .bool p]] w fun e w' => e = .returned (.agg #[.int .i64 (enC C x (!p) : Nat), .int .i64 (enS C x (!p) : Nat)]) ∧ Below w.heap.size w w' := by
  unfold drV
  obtain ⟨c0, c1, c2, c3⟩ := hD.endAt hm x h1 h2
  have l1 := hD.ltT
  have l2 := hD.ltF
  clear hD
  have hB3 : Below w.heap.size w (((w.alloc (.cells #[.slice a C.length cap, .int .i64 loops, .slice (some ⟨gF, 0, none⟩) (2 * C.length + 1) cF, .slice (some ⟨gT, 0, none⟩) (2 * C.length + 1) cT] 61)).alloc (.cells #[.int .i64 x, .bool p] 26)).alloc (.cells #[.int .i64 0, .int .i64 0] 120)) := below3 _ _ _ _
  have d0 := bcell hB3 l1 c0
  have d1 := bcell hB3 l1 c1
  have d2 := bcell hB3 l2 c2
  have d3 := bcell hB3 l2 c3
  clear hB3 c0 c1 c2 c3
  obtain ⟨t0, ht0⟩ : ∃ t0, enC C x true = t0 := ⟨_, rfl⟩
  obtain ⟨t1, ht1⟩ : ∃ t1, enS C x true = t1 := ⟨_, rfl⟩
  obtain ⟨f0, hf0⟩ : ∃ f0, enC C x false = f0 := ⟨_, rfl⟩
  obtain ⟨f1, hf1⟩ : ∃ f1, enS C x false = f1 := ⟨_, rfl⟩
  rw [ht0] at d0
  rw [ht1] at d1
  rw [hf0] at d2
  rw [hf1] at d3
  have hx : x < 2 * C.length + 1 := by omega
  cases p with
  | true =>
    have hG : (((w.alloc (.cells #[.slice a C.length cap, .int .i64 loops, .slice (some ⟨gF, 0, none⟩) (2 * C.length + 1) cF, .slice (some ⟨gT, 0, none⟩) (2 * C.length + 1) cT] 61)).alloc (.cells #[.int .i64 x, .bool true] 26)).alloc (.cells #[.int .i64 f0, .int .i64 f1] 120)).heap[w.heap.size + 1 + 1]? = some (.cells #[.int .i64 f0, .int .i64 f1] 120 (0, 0)) := alloc_at (by simp)
    have x0 := block_cell (i := 0) (v := .int .i64 f0) hG rfl
    have x1 := block_cell (i := 1) (v := .int .i64 f1) hG rfl
    have HB : Hid (Below w.heap.size w (((w.alloc (.cells #[.slice a C.length cap, .int .i64 loops, .slice (some ⟨gF, 0, none⟩) (2 * C.length + 1) cF, .slice (some ⟨gT, 0, none⟩) (2 * C.length + 1) cT] 61)).alloc (.cells #[.int .i64 x, .bool true] 26)).alloc (.cells #[.int .i64 f0, .int .i64 f1] 120))) := below3 _ _ _ _
    clear hG
    go_enter Try.func78, Try.ntmps78
    go_wp2
    exact bodyPost_ret (v := .agg #[.int .i64 f0, .int .i64 f1]) (by simp [results, Try.results78, go_sem, x0, x1]) rfl ⟨by simp [hf0, hf1], HB.out⟩
  | false =>
    have hG : (((w.alloc (.cells #[.slice a C.length cap, .int .i64 loops, .slice (some ⟨gF, 0, none⟩) (2 * C.length + 1) cF, .slice (some ⟨gT, 0, none⟩) (2 * C.length + 1) cT] 61)).alloc (.cells #[.int .i64 x, .bool false] 26)).alloc (.cells #[.int .i64 t0, .int .i64 t1] 120)).heap[w.heap.size + 1 + 1]? = some (.cells #[.int .i64 t0, .int .i64 t1] 120 (0, 0)) := alloc_at (by simp)
    have x0 := block_cell (i := 0) (v := .int .i64 t0) hG rfl
    have x1 := block_cell (i := 1) (v := .int .i64 t1) hG rfl
    have HB : Hid (Below w.heap.size w (((w.alloc (.cells #[.slice a C.length cap, .int .i64 loops, .slice (some ⟨gF, 0, none⟩) (2 * C.length + 1) cF, .slice (some ⟨gT, 0, none⟩) (2 * C.length + 1) cT] 61)).alloc (.cells #[.int .i64 x, .bool false] 26)).alloc (.cells #[.int .i64 t0, .int .i64 t1] 120))) := below3 _ _ _ _
    clear hG
    go_enter Try.func78, Try.ntmps78
    go_wp2
    exact bodyPost_ret (v := .agg #[.int .i64 t0, .int .i64 t1]) (by simp [results, Try.results78, go_sem, x0, x1]) rfl ⟨by simp [ht0, ht1], HB.out⟩

set_option maxHeartbeats 2000000 in
set_option maxRecDepth 100000 in
theorem way_any (x : Int) (p : Bool) (w : World) :
    Calls Try.prog 94 #[.agg #[.int .i64 x, .bool p]] w fun e w' => e = .returned (.int .i64 (if p = true then 1 else 0)) ∧ Below w.heap.size w w' := by
  go_enter Try.func94, Try.ntmps94
  cases p with
  | true =>
    go_wp2
    go_ret
    exact ⟨rfl, (Below.refl _ _).alloc (Nat.le_refl _) _⟩
  | false =>
    go_wp2
    go_ret
    exact ⟨rfl, (Below.refl _ _).alloc (Nat.le_refl _) _⟩

set_option maxHeartbeats 2000000 in
set_option maxRecDepth 100000 in
theorem dartCode_any (x : Nat) (p : Bool) (w : World) (hx : x ≤ 1000) :
    Calls Try.prog 86 #[.agg #[.int .i64 x, .bool p]] w fun e w' => e = .returned (.int .i64 ((if p = true then 2 * x + 1 else 2 * x : Nat) : Int)) ∧ Below w.heap.size w w' := by
  have e1 : IntKind.i64.wrap (2 * (x : Int)) = 2 * (x : Int) := IntWalk.i64_in _ (by omega)
  have e2 : IntKind.i64.wrap (2 * (x : Int) + 1) = 2 * (x : Int) + 1 := IntWalk.i64_in _ (by omega)
  go_enter Try.func86, Try.ntmps86
  cases p with
  | true =>
    go_wp2
    go_ret
    exact ⟨by simp, (Below.refl _ _).alloc (Nat.le_refl _) _⟩
  | false =>
    go_wp2
    go_ret
    exact ⟨by simp, (Below.refl _ _).alloc (Nat.le_refl _) _⟩
end Go.Proofs.Ytagaajlbkfkaiaa
/- Visits: lists of them that a call owns; the walks of gauss.visits and gauss.signs. -/
namespace Go.Proofs.Ytagaajlbkfkaiaa
open Go.RowKit

/-- Visits as cells. -/
def vflat (V : List (Nat × Bool)) : List Value := V.flatMap fun t => [.int .i64 (t.1 : Nat), .bool t.2]
theorem vflat_append (l m : List (Nat × Bool)) : vflat (l ++ m) = vflat l ++ vflat m := by simp [vflat]
theorem vflat_get (l : List (Nat × Bool)) (i : Nat) (hi : i < l.length) : (vflat l)[i * 2]? = some (.int .i64 ((l.getD i (0, false)).1 : Nat)) ∧ (vflat l)[i * 2 + 1]? = some (.bool (l.getD i (0, false)).2) := by
  induction l generalizing i with
  | nil => simp at hi
  | cons t l ih =>
    have e : vflat (t :: l) = .int .i64 (t.1 : Nat) :: .bool t.2 :: vflat l := rfl
    cases i with
    | zero => rw [e]; exact ⟨rfl, rfl⟩
    | succ i =>
      have := ih i (by simpa using hi)
      rw [e, show (i + 1) * 2 = i * 2 + 1 + 1 by omega]
      exact this
theorem vflat_one (l : List (Nat × Bool)) : ∀ u ∈ vflat l, u.oneCell' = true := by
  intro u hu
  simp only [vflat, List.mem_flatMap] at hu
  obtain ⟨t, _, ht⟩ := hu
  simp at ht
  rcases ht with rfl | rfl <;> rfl
/-- The walks as one looks at them. -/
def WksAt (w : World) (v : Value) (L : List (List Nat)) : Prop := ∃ ys : List Value, ys.length = L.length ∧ Slots w w.heap.size v ys ∧ ∀ j, j < L.length → Slots w w.heap.size (ys.getD j (.bool false)) (nats (L.getD j []))
theorem WksAt.on {w w' : World} {v : Value} {L : List (List Nat)} (h : WksAt w v L) (hb : Below w.heap.size w w') : WksAt w' v L := by
  obtain ⟨ys, h1, h2, h3⟩ := h
  exact ⟨ys, h1, (h2.on hb).mono hb.size, fun j hj => ((h3 j hj).on hb).mono hb.size⟩
end Go.Proofs.Ytagaajlbkfkaiaa
/- The walk of gauss.signs; rows of visits and of signs that are the same. -/
namespace Go.Proofs.Ytagaajlbkfkaiaa
open Go.RowKit

/-- A list of visits as one looks at it. -/
def VS (w : World) (v : Value) (V : List (Nat × Bool)) : Prop := ∃ a cap, v = .slice a V.length cap ∧ (0 < V.length → ∃ b off, a = some ⟨b, off, none⟩ ∧ b < w.heap.size ∧ ∀ i, i < V.length → w.cell? ⟨b, off + i * 2, none⟩ = some (.int .i64 ((V.getD i (0, false)).1 : Nat)) ∧ w.cell? ⟨b, off + i * 2 + 1, none⟩ = some (.bool (V.getD i (0, false)).2))
def VsAt (w : World) (v : Value) (L : List (List (Nat × Bool))) : Prop := ∃ ys : List Value, ys.length = L.length ∧ Slots w w.heap.size v ys ∧ ∀ j, j < L.length → VS w (ys.getD j (.bool false)) (L.getD j [])
theorem vs_own {w : World} {B e : Nat} {v : Value} {V : List (Nat × Bool)} (h : w.ownsRow B e 2 v V.length (vflat V)) : VS w v V := by
  have h0 := h
  rcases h.2 with ⟨rfl, h1⟩ | ⟨g, cap, cur, rfl, _, _, _⟩
  · exact ⟨none, 0, by rw [h1], fun hp => by omega⟩
  · refine ⟨some ⟨g, 0, none⟩, cap, rfl, fun _ => ⟨g, 0, rfl, (h0.lt g rfl).2, fun i hi => ?_⟩⟩
    have g0 := vflat_get V i hi
    rw [Nat.zero_add]
    exact ⟨(h0.cellAt (i * 2) (by omega)).trans g0.1, (h0.cellAt (i * 2 + 1) (by omega)).trans g0.2⟩
theorem VS.on {w w' : World} {v : Value} {V : List (Nat × Bool)} (h : VS w v V) (hb : Below w.heap.size w w') : VS w' v V := by
  obtain ⟨a, cap, rfl, g⟩ := h
  refine ⟨a, cap, rfl, fun hp => ?_⟩
  obtain ⟨b, off, rfl, hlt, hc⟩ := g hp
  exact ⟨b, off, rfl, Nat.lt_of_lt_of_le hlt hb.size, fun i hi => ⟨bcell hb hlt (hc i hi).1, bcell hb hlt (hc i hi).2⟩⟩
theorem VsAt.on {w w' : World} {v : Value} {L : List (List (Nat × Bool))} (h : VsAt w v L) (hb : Below w.heap.size w w') : VsAt w' v L := by
  obtain ⟨ys, h1, h2, h3⟩ := h
  exact ⟨ys, h1, (h2.on hb).mono hb.size, fun j hj => (h3 j hj).on hb⟩

end Go.Proofs.Ytagaajlbkfkaiaa
/- Diagrams under way: crossings that are appended to one; the walks of drawing.crossOf and drawing.Turned. -/
namespace Go.Proofs.Ytagaajlbkfkaiaa
open Go.RowKit

theorem cells_append (C D : List Cr) : crossCells (C ++ D) = crossCells C ++ crossCells D := by simp [crossCells]
theorem new_cell5 (W : World) (a b c d p : Value) (e : TypeId) : ∀ j u, [a, b, c, d, p][j]? = some u → (W.alloc (.cells #[a, b, c, d, p] e)).cell? ((⟨W.heap.size, 0, none⟩ : Addr).add j) = some u := by
  intro j u hj
  rw [Addr.add_lit, Nat.zero_add]
  have hh : (W.alloc (.cells #[a, b, c, d, p] e)).heap[W.heap.size]? = some (.cells #[a, b, c, d, p] e (0, 0)) := Array.getElem?_push_size
  match j, hj with
  | 0, hj => simp at hj; subst hj; exact block_cell hh rfl
  | 1, hj => simp at hj; subst hj; exact block_cell hh rfl
  | 2, hj => simp at hj; subst hj; exact block_cell hh rfl
  | 3, hj => simp at hj; subst hj; exact block_cell hh rfl
  | 4, hj => simp at hj; subst hj; exact block_cell hh rfl
/-- A diagram under way: its box at block g, its crossings a row of the call's own. -/
structure OutAt (w : World) (B g : Nat) (v : Value) (loops : Int) (C : List Cr) : Prop where
  box : w.heap[g]? = some (.cells #[v, .int .i64 loops] 24 (0, 0))
  row : w.ownsRow B 71 5 v C.length (crossCells C)
theorem OutAt.nil {w : World} {B g : Nat} {loops : Int} (h : w.heap[g]? = some (.cells #[.slice none 0 0, .int .i64 loops] 24 (0, 0))) : OutAt w B g (.slice none 0 0) loops [] := ⟨h, World.ownsRow_nil _ _ _ _⟩
theorem OutAt.on {w w' : World} {B g : Nat} {v : Value} {loops : Int} {C : List Cr} (h : OutAt w B g v loops C) (hb : Below w.heap.size w w') : OutAt w' B g v loops C :=
  ⟨(hb.block _ (Array.getElem?_eq_some_iff.1 h.box).1).trans h.box, own_any h.row (grown_below hb none)⟩
theorem OutAt.kept {w w' : World} {B g q : Nat} {v : Value} {loops : Int} {C : List Cr} (h : OutAt w B g v loops C) (hg : w.grownBy w' (some q)) (hq : q ≠ g) (hB : q < B) : OutAt w' B g v loops C := by
  refine ⟨(hg.block _ (Array.getElem?_eq_some_iff.1 h.box).1 (fun e => hq (Option.some.inj e).symm)).trans h.box, h.row.kept hg ?_⟩
  cases hv : v.ownBlock with
  | none => exact Or.inl rfl
  | some k => exact Or.inr (fun e => by have h1 := (h.row.lt k hv).1; have h2 := Option.some.inj e; omega)
theorem OutAt.app {w w8 : World} {B g : Nat} {v v8 : Value} {loops : Int} {C : List Cr} {x : Cr} {o : Obj} {m : Nat} (h : OutAt w B g v loops C) (hgB : g < B) (hm : m = C.length + 1) (hown8 : w8.ownsRow B 71 5 v8 m (crossCells C ++ crossCells [x])) (hg8 : (w.alloc o).grownBy w8 v.ownBlock) : OutAt (w8.setCell ⟨g, 0, none⟩ v8) B g v8 loops (C ++ [x]) := by
  have hlt := (Array.getElem?_eq_some_iff.1 h.box).1
  have hb8 : w8.heap[g]? = some (.cells #[v, .int .i64 loops] 24 (0, 0)) :=
    (hg8.block _ (by simp; omega) (fun e => by have := (h.row.lt g e.symm).1; omega)).trans (alloc_old h.box)
  refine ⟨set_block hb8, ?_⟩
  have hl : (C ++ [x]).length = m := by rw [hm]; simp
  rw [hl, cells_append]
  refine hown8.kept (set_grown w8 g 0 v8) ?_
  cases hv : v8.ownBlock with
  | none => exact Or.inl rfl
  | some k => exact Or.inr (fun e => by have h1 := (hown8.lt k hv).1; have h2 := Option.some.inj e; omega)
theorem OutAt.below {w w8 W : World} {B B0 g : Nat} {v v8 : Value} {loops : Int} {C : List Cr} {o : Obj} (h : OutAt w B g v loops C) (hb : Below B0 W w) (hB : B0 ≤ B) (hs : B0 ≤ w.heap.size) (h0 : B0 ≤ g) (hg8 : (w.alloc o).grownBy w8 v.ownBlock) : Below B0 W (w8.setCell ⟨g, 0, none⟩ v8) :=
  ((hb.alloc hs _).grown hg8 (by simp; omega) (fun q hq => Nat.le_trans hB (h.row.lt q hq).1)).grown (set_grown w8 g 0 v8) (by have := hg8.size; simp at this; omega) (fun q hq => by have := Option.some.inj hq; omega)
theorem OutAt.other {w w8 : World} {B g k : Nat} {v v8 : Value} {loops : Int} {C : List Cr} {o p : Obj} (h : OutAt w B g v loops C) (hk : w.heap[k]? = some p) (hkB : k < B) (hkg : k ≠ g) (hg8 : (w.alloc o).grownBy w8 v.ownBlock) : (w8.setCell ⟨g, 0, none⟩ v8).heap[k]? = some p := by
  have hlt := (Array.getElem?_eq_some_iff.1 hk).1
  have hs := hg8.size
  simp only [World.size_alloc] at hs
  have hb8 : w8.heap[k]? = some p := (hg8.block _ (by simp; omega) (fun e => by have := (h.row.lt k e.symm).1; omega)).trans (alloc_old hk)
  exact ((set_grown w8 g 0 v8).block k (by omega) (fun e => hkg (Option.some.inj e))).trans hb8
theorem OutAt.box8 {w w8 : World} {B g : Nat} {v : Value} {loops : Int} {C : List Cr} {o : Obj} (h : OutAt w B g v loops C) (hgB : g < B) (hg8 : (w.alloc o).grownBy w8 v.ownBlock) : w8.heap[g]? = some (.cells #[v, .int .i64 loops] 24 (0, 0)) := by
  have hlt := (Array.getElem?_eq_some_iff.1 h.box).1
  exact (hg8.block _ (by simp; omega) (fun e => by have := (h.row.lt g e.symm).1; omega)).trans (alloc_old h.box)

/-- The crossing told from side f on. -/
def turn (x : Cr) (f : Nat) : Cr := ⟨x.arc (f % 4), x.arc ((f + 1) % 4), x.arc ((f + 2) % 4), x.arc ((f + 3) % 4), x.plus⟩

set_option maxHeartbeats 2000000 in
set_option maxRecDepth 100000 in
theorem crossOf_any (x : Cr) (w : World) :
    Calls Try.prog 122 #[.agg #[.int .i64 x.a, .int .i64 x.b, .int .i64 x.c, .int .i64 x.d], .bool x.plus] w fun e w' => e = .returned (.agg #[.int .i64 x.a, .int .i64 x.b, .int .i64 x.c, .int .i64 x.d, .bool x.plus]) ∧ Below w.heap.size w w' := by
  go_enter Try.func122, Try.ntmps122
  go_wp2
  exact bodyPost_ret (v := .agg #[.int .i64 x.a, .int .i64 x.b, .int .i64 x.c, .int .i64 x.d, .bool x.plus]) (by simp [results, Try.results122, go_sem]) rfl ⟨rfl, below2 _ _ _⟩

/-- Four numbers as cells. -/
def intArr (l : List Int) : Array Value := (l.map fun x => Value.int .i64 x).toArray
theorem intArr_set (l : List Int) (p : Nat) (z : Int) : (intArr l).setIfInBounds p (.int .i64 z) = intArr (l.set p z) := by
  simp [intArr, List.map_set]
theorem intArr_get (l : List Int) (p : Nat) (h : p < l.length) : (intArr l)[p]? = some (.int .i64 (l.getD p 0)) := by
  simp [intArr, List.getD, h]
end Go.Proofs.Ytagaajlbkfkaiaa
/- The walks of canon.mirrored, canon.Mirror and ref.MirrorOf. -/
namespace Go.Proofs.Ytagaajlbkfkaiaa
open Go.RowKit

end Go.Proofs.Ytagaajlbkfkaiaa
/- Crossings compared; the walks of ref.SameDiagram and ref.MirrorOf, and of canon.Mirror. -/
namespace Go.Proofs.Ytagaajlbkfkaiaa
open Go.RowKit

/-- Are two crossings the same? -/
def crEq (x y : Cr) : Bool := x.a == y.a && x.b == y.b && x.c == y.c && x.d == y.d && x.plus == y.plus
theorem crEq_refl (x : Cr) : crEq x x = true := by simp [crEq]
/-- Are two lists of crossings the same? -/
def crsEq (C D : List Cr) : Bool := decide (C.length = D.length) && (List.range C.length).all fun i => crEq (C.getD i Cr.none) (D.getD i Cr.none)
/-- Are two diagrams the same? -/
def sameD (l1 l2 : Int) (C D : List Cr) : Bool := decide (l1 = l2) && crsEq C D
theorem sameD_iff (l1 l2 : Int) (C D : List Cr) : sameD l1 l2 C D = true ↔ l1 = l2 ∧ C.length = D.length ∧ ∀ i, i < C.length → crEq (C.getD i Cr.none) (D.getD i Cr.none) = true := by
  simp only [sameD, crsEq, Bool.and_eq_true, decide_eq_true_eq, List.all_eq_true, List.mem_range]
theorem sameD_no {l1 l2 : Int} {C D : List Cr} (h : ¬ (l1 = l2 ∧ C.length = D.length ∧ ∀ i, i < C.length → crEq (C.getD i Cr.none) (D.getD i Cr.none) = true)) : sameD l1 l2 C D = false := by
  cases hs : sameD l1 l2 C D with
  | false => rfl
  | true => exact absurd ((sameD_iff l1 l2 C D).1 hs) h
theorem eqCross (x y : Cr) (w : World) : (Op.equalIn 10000 71 (.agg #[.int .i64 x.a, .int .i64 x.b, .int .i64 x.c, .int .i64 x.d, .bool x.plus]) (.agg #[.int .i64 y.a, .int .i64 y.b, .int .i64 y.c, .int .i64 y.d, .bool y.plus])).run Try.prog w = .ok (crEq x y) w := by
  have u3 := Try.underlying3
  have a3 := Try.isAgg3
  have z3 := Try.sizeOf3
  have u4 := Try.underlying4
  have a4 := Try.isAgg4
  have z4 := Try.sizeOf4
  have hS : Try.prog.underlying 71 = some (.struct (Try.prog.fieldsOf 71)) := by kernel_rfl
  have hp : Try.prog.stoodInHeld 71 = false := by kernel_rfl
  rw [show (10000 : Nat) = 9999 + 1 from rfl, run_equalIn_agg w 9999 71 _ _ hS hp]
  simp only [Program.fieldsOf, Try.underlying71]
  go_simp
  unfold crEq
  by_cases h1 : x.a = y.a <;> by_cases h2 : x.b = y.b <;> by_cases h3 : x.c = y.c <;> by_cases h4 : x.d = y.d <;> by_cases h5 : x.plus = y.plus <;> simp [h1, h2, h3, h4, h5]
theorem neqCross (x y : Cr) (w : World) : (binOp .neq 71 (.agg #[.int .i64 x.a, .int .i64 x.b, .int .i64 x.c, .int .i64 x.d, .bool x.plus]) (.agg #[.int .i64 y.a, .int .i64 y.b, .int .i64 y.c, .int .i64 y.d, .bool y.plus])).run Try.prog w = .ok (.bool (!crEq x y)) w := by
  rw [run_neq_struct, eqCross]
  simp [Result.andThen]

set_option maxHeartbeats 4000000 in
set_option maxRecDepth 100000 in
theorem sameDiagram_any (v1 v2 : Value) (C D : List Cr) (l1 l2 : Int) (w : World) (h1 : Crs w w.heap.size v1 C) (h2 : Crs w w.heap.size v2 D) :
    Calls Try.prog 12 #[.agg #[v1, .int .i64 l1], .agg #[v2, .int .i64 l2]] w fun e w' => e = .returned (.bool (sameD l1 l2 C D)) ∧ Below w.heap.size w w' := by
  have HC1 : Hid (Crs w w.heap.size v1 C) := h1
  have HC2 : Hid (Crs w w.heap.size v2 D) := h2
  obtain ⟨a1, c1, rfl, hn1, -⟩ := h1
  obtain ⟨a2, c2, rfl, hn2, -⟩ := h2
  have hn1' : C.length ≤ 9223372036854775807 := hn1
  have hn2' : D.length ≤ 9223372036854775807 := hn2
  clear hn1 hn2
  have HB0 : Hid (Below w.heap.size w ((w.alloc (.cells #[.slice a1 C.length c1, .int .i64 l1] 24)).alloc (.cells #[.slice a2 D.length c2, .int .i64 l2] 24))) := below2 _ _ _
  by_cases hll : l1 = l2
  · subst hll
    have hd1 : (l1 != l1) = false := by simp
    by_cases hlen : C.length = D.length
    · have HLEN : Hid (C.length = D.length) := hlen
      have e2 : D.length = C.length := hlen.symm
      rw [e2]
      clear hlen e2 hn2'
      have hd2 : ((C.length : Int) != (C.length : Int)) = false := by simp
      obtain ⟨w0, hw0⟩ : ∃ w0, w0 = (w.alloc (.cells #[.slice a1 C.length c1, .int .i64 l1] 24)).alloc (.cells #[.slice a2 C.length c2, .int .i64 l1] 24) := ⟨_, rfl⟩
      have HW0 : Hid (w0 = (w.alloc (.cells #[.slice a1 C.length c1, .int .i64 l1] 24)).alloc (.cells #[.slice a2 C.length c2, .int .i64 l1] 24)) := hw0
      have hs0 : w0.heap.size = w.heap.size + 2 := by rw [hw0]; simp
      have HBW : Hid (Below w.heap.size w w0) := (by rw [hw0]; exact below2 _ _ _ : Below w.heap.size w w0)
      have HT1 : Hid (w0.heap[w.heap.size]? = some (.cells #[.slice a1 C.length c1, .int .i64 l1] 24 (0, 0))) := (by rw [hw0]; exact alloc_old (alloc_at rfl) : w0.heap[w.heap.size]? = some (.cells #[.slice a1 C.length c1, .int .i64 l1] 24 (0, 0)))
      have HT2 : Hid (w0.heap[w.heap.size + 1]? = some (.cells #[.slice a2 C.length c2, .int .i64 l1] 24 (0, 0))) := (by rw [hw0]; exact alloc_at (by simp) : w0.heap[w.heap.size + 1]? = some (.cells #[.slice a2 C.length c2, .int .i64 l1] 24 (0, 0)))
      clear hw0
      go_enter Try.func12, Try.ntmps12
      go_wp2
      rw [← HW0.out]
      go_loopw [5] (fun v5 wr => ∃ i : Nat, i ≤ C.length ∧ v5 = .int .i64 (i : Nat) ∧ Hid (∀ j, j < i → crEq (C.getD j Cr.none) (D.getD j Cr.none) = true) ∧ Below w0.heap.size w0 wr) (fun v5 _ => C.length - (intOf v5).toNat)
      case atStart => exact ⟨0, Nat.zero_le _, rfl, fun j hj => absurd hj (Nat.not_lt_zero _), Below.refl _ _⟩
      case round =>
        rename World => W1
        obtain ⟨i, hin, rfl, hall, hb⟩ := hrel
        have hszW := hb.size
        have g1 := (hb.block _ (by omega)).trans HT1.out
        have g2 := (hb.block _ (by omega)).trans HT2.out
        have p1 : W1.cell? ⟨w.heap.size, 0, none⟩ = some (.slice a1 C.length c1) := block_cell g1 rfl
        have p2 : W1.cell? ⟨w.heap.size + 1, 0, none⟩ = some (.slice a2 C.length c2) := block_cell g2 rfl
        have hl1 : w.heap.size < W1.heap.size := by omega
        have hl2 : w.heap.size + 1 < W1.heap.size := by omega
        have HBB : Hid (Below w.heap.size w W1) := HBW.out.trans (hb.mono HBW.out.size)
        clear g1 g2
        by_cases hil : i < C.length
        · have hdi : decide ((i : Int) < (C.length : Int)) = true := by simp; omega
          have hdi2 : decide (i < C.length) = true := by simp; omega
          obtain ⟨b1, o1, ea1, hb1, hC1⟩ := crs_some HC1.out (by omega)
          subst ea1
          obtain ⟨x0, x1, x2, x3, x4⟩ := (hC1.on HBB.out hb1) i hil
          have hl := HLEN.out
          obtain ⟨b2, o2, ea2, hb2, hC2⟩ : ∃ b off, a2 = some ⟨b, off, none⟩ ∧ b < w.heap.size ∧ CrossAt w b off D := by
            obtain ⟨a', cap', e, _, g⟩ := HC2.out
            injection e with e1 e2 e3
            obtain ⟨b, off, h1, h2, h3⟩ := g (by omega)
            exact ⟨b, off, by rw [e1, h1], h2, h3⟩
          subst ea2
          obtain ⟨y0, y1, y2, y3, y4⟩ := (hC2.on HBB.out hb2) i (by omega)
          clear hC1 hC2 hl
          have HCI : Hid (∀ q, crEq (C.getD i Cr.none) (D.getD i Cr.none) = q → crEq (C.getD i Cr.none) (D.getD i Cr.none) = q) := fun _ h => h
          obtain ⟨x, hx⟩ : ∃ x, C.getD i Cr.none = x := ⟨_, rfl⟩
          obtain ⟨y, hy⟩ : ∃ y, D.getD i Cr.none = y := ⟨_, rfl⟩
          rw [hx] at x0 x1 x2 x3 x4
          rw [hy] at y0 y1 y2 y3 y4
          have HXY : Hid (crEq (C.getD i Cr.none) (D.getD i Cr.none) = crEq x y) := (by rw [hx, hy] : crEq (C.getD i Cr.none) (D.getD i Cr.none) = crEq x y)
          clear hx hy HCI
          have hb1w : b1 < W1.heap.size := by omega
          have hb2w : b2 < W1.heap.size := by omega
          have n0 : (0 : Int) ≤ (i : Int) := by omega
          have n1 : (i : Int) < (C.length : Int) := by omega
          have hcmp := neqCross x y
          cases hq : crEq x y with
          | true =>
            rw [hq] at hcmp
            simp only [Bool.not_true] at hcmp
            go_wp2
            go_quiet (fail)
            go_wp2
            go_roundw
            case rel =>
              refine ⟨i + 1, by omega, by go_num, fun j hj => ?_, below_drewN hb _⟩
              by_cases e : j = i
              · rw [e, HXY.out]; exact hq
              · exact hall.out j (by omega)
            case measure => simp only [intOf]; omega
          | false =>
            rw [hq] at hcmp
            simp only [Bool.not_false] at hcmp
            have HNO : Hid (sameD l1 l1 C D = false) := sameD_no (fun h => by
              have := h.2.2 i hil
              rw [HXY.out, hq] at this
              exact absurd this (by simp))
            go_wp2
            go_quiet (fail)
            go_wp2
            go_ret
            exact ⟨ret_bool HNO.out, HBW.out.trans ((below_drewN hb _).mono HBW.out.size)⟩
        · obtain rfl : i = C.length := by omega
          have HYES : Hid (sameD l1 l1 C D = true) := (sameD_iff l1 l1 C D).2 ⟨rfl, HLEN.out, fun j hj => hall.out j hj⟩
          have hdi : decide ((C.length : Int) < (C.length : Int)) = false := by simp
          go_wp2
          go_ret
          exact ⟨ret_bool HYES.out, HBB.out⟩
    · have hd2 : ((C.length : Int) != (D.length : Int)) = true := by rw [bne_iff_ne]; omega
      have HNO : Hid (sameD l1 l1 C D = false) := sameD_no (fun h => hlen h.2.1)
      go_enter Try.func12, Try.ntmps12
      go_wp2
      go_ret
      exact ⟨ret_bool HNO.out, HB0.out⟩
  · have hd1 : (l1 != l2) = true := by rw [bne_iff_ne]; exact hll
    have HNO : Hid (sameD l1 l2 C D = false) := sameD_no (fun h => hll h.1)
    go_enter Try.func12, Try.ntmps12
    go_wp2
    go_ret
    exact ⟨ret_bool HNO.out, HB0.out⟩
theorem sameDiagram_eq (v1 v2 : Value) (C : List Cr) (l : Int) (w : World) (h1 : Crs w w.heap.size v1 C) (h2 : Crs w w.heap.size v2 C) :
    Calls Try.prog 12 #[.agg #[v1, .int .i64 l], .agg #[v2, .int .i64 l]] w fun e w' => e = .returned (.bool true) ∧ Below w.heap.size w w' := by
  refine (sameDiagram_any v1 v2 C C l l w h1 h2).mono fun e w' ⟨he, hb⟩ => ⟨?_, hb⟩
  rw [he, (sameD_iff l l C C).2 ⟨rfl, rfl, fun i _ => crEq_refl _⟩]
end Go.Proofs.Ytagaajlbkfkaiaa
/- The walk of Drawing.Has. -/
namespace Go.Proofs.Ytagaajlbkfkaiaa
open Go.RowKit

/-- Is there such an arc? -/
def hasB (C : List Cr) (x : Int) : Bool := decide (1 ≤ x) && decide (x ≤ 2 * (C.length : Int))

set_option maxHeartbeats 1000000 in
set_option maxRecDepth 100000 in
theorem has_any (a : Option Addr) (cap : Nat) (C : List Cr) (loops : Int) (gF cF gT cT : Nat) (x : Int) (w : World) (hl : C.length ≤ 16) :
    Calls Try.prog 104 #[drV a cap C loops gF cF gT cT, .int .i64 x] w fun e w' => e = .returned (.bool (hasB C x)) ∧ Below w.heap.size w w' := by
  unfold drV
  have hb : ∀ o, Below w.heap.size w (w.alloc o) := fun o => (Below.refl _ _).alloc (Nat.le_refl _) o
  obtain ⟨m, hm⟩ : ∃ m, 2 * C.length + 1 = m := ⟨_, rfl⟩
  have HM : Hid (2 * C.length + 1 = m) := hm
  have hm40 : m ≤ 40 := by omega
  rw [hm]
  clear hm
  by_cases h1 : 1 ≤ x
  · have d1 : decide (1 ≤ x) = true := by simpa using h1
    by_cases h2 : x < (m : Int)
    · have d2 : decide (x < (m : Int)) = true := by simpa using h2
      have HR : Hid (hasB C x = true) := (by have := HM.out; simp [hasB, h1]; omega : hasB C x = true)
      go_enter Try.func104, Try.ntmps104
      go_wp2
      go_ret
      exact ⟨ret_bool HR.out, hb _⟩
    · have d2 : decide (x < (m : Int)) = false := by simpa using h2
      have HR : Hid (hasB C x = false) := (by have := HM.out; simp [hasB]; omega : hasB C x = false)
      go_enter Try.func104, Try.ntmps104
      go_wp2
      go_ret
      exact ⟨ret_bool HR.out, hb _⟩
  · have d1 : decide (1 ≤ x) = false := by simpa using h1
    have HR : Hid (hasB C x = false) := (by simp [hasB, h1] : hasB C x = false)
    go_enter Try.func104, Try.ntmps104
    go_wp2
    go_ret
    exact ⟨ret_bool HR.out, hb _⟩
end Go.Proofs.Ytagaajlbkfkaiaa
/- The walks of ref.MirrorOf and canon.Mirror. -/
namespace Go.Proofs.Ytagaajlbkfkaiaa
open Go.RowKit

end Go.Proofs.Ytagaajlbkfkaiaa
/- The arc on which the other strand goes on; the walk of Drawing.Aside. -/
namespace Go.Proofs.Ytagaajlbkfkaiaa
open Go.RowKit

end Go.Proofs.Ytagaajlbkfkaiaa
/- Plain mathematics: edges and the edges that cross them; where Euler's number is that of spheres, a set of edges that comes to each corner an even number of times is the boundary of a set of faces. -/
namespace Go.Proofs.Ytagaajlbkfkaiaa

/-- How often, modulo two. -/
def xs (g : Nat → Bool) : Nat → Bool
  | 0 => false
  | m + 1 => xor (xs g m) (g m)
/-- The edges of a set, among the first. -/
def incl (E : Nat → Nat × Nat) (K : Nat → Bool) : Nat → List (Nat × Nat)
  | 0 => []
  | m + 1 => incl E K m ++ (if K m = true then [E m] else [])
theorem incl_mem {E : Nat → Nat × Nat} {K : Nat → Bool} {m : Nat} {e : Nat × Nat} : e ∈ incl E K m ↔ ∃ i, i < m ∧ K i = true ∧ e = E i := by
  induction m with
  | zero => simp [incl]
  | succ m ih =>
    simp only [incl, List.mem_append, ih]
    constructor
    · rintro (⟨i, h1, h2, h3⟩ | h)
      · exact ⟨i, by omega, h2, h3⟩
      · by_cases hk : K m = true
        · rw [if_pos hk] at h
          exact ⟨m, by omega, hk, List.mem_singleton.1 h⟩
        · rw [if_neg hk] at h; cases h
    · rintro ⟨i, h1, h2, h3⟩
      by_cases e2 : i = m
      · subst e2
        exact Or.inr (by rw [if_pos h2, h3]; exact List.mem_singleton.2 rfl)
      · exact Or.inl ⟨i, by omega, h2, h3⟩
/-- What the edges of a set join, each by its lowest. -/
def cls (E : Nat → Nat × Nat) (K : Nat → Bool) (n m : Nat) : List Nat := mers (List.range n) (incl E K m)
theorem cls_least {E : Nat → Nat × Nat} {K : Nat → Bool} {n m : Nat} (hE : ∀ i, i < m → (E i).1 < n ∧ (E i).2 < n) : Least (incl E K m) n (cls E K n m) := by
  have h := mers_least n (incl E K m) [] (List.range n) (fun e he => by
    obtain ⟨i, h1, -, rfl⟩ := incl_mem.1 (by simpa using he)
    exact hE i h1) (least_nil n)
  simpa [cls] using h
theorem cls_next {E : Nat → Nat × Nat} {K : Nat → Bool} {n m : Nat} (h : K m = true) : cls E K n (m + 1) = mer (cls E K n m) (E m).1 (E m).2 := by
  unfold cls
  simp only [incl]
  rw [if_pos h, mers_app]
  rfl
theorem mer_same {W : List Nat} {x y : Nat} (h : W.getD x 0 = W.getD y 0) : mer W x y = W := by
  unfold mer
  rw [h]
  have : ∀ z : Nat, (if z = max (W.getD y 0) (W.getD y 0) then min (W.getD y 0) (W.getD y 0) else z) = z := fun z => by
    split <;> omega
  simp only [this]
  exact List.map_id' W
end Go.Proofs.Ytagaajlbkfkaiaa
/- Plain mathematics: rings of a renaming, and what becomes of them where two places are traded: two rings become one, or one becomes two. -/
namespace Go.Proofs.Ytagaajlbkfkaiaa

/-- A renaming of the numbers below M. -/
structure Bij (f : Nat → Nat) (M : Nat) : Prop where
  lt : ∀ x, x < M → f x < M
  inj : ∀ x y, x < M → y < M → f x = f y → x = y
def it (f : Nat → Nat) : Nat → Nat → Nat
  | 0, x => x
  | i + 1, x => f (it f i x)
theorem it_lt {f : Nat → Nat} {M : Nat} (h : Bij f M) {x : Nat} (hx : x < M) : ∀ i, it f i x < M := by
  intro i
  induction i with
  | zero => exact hx
  | succ i ih => exact h.lt _ ih
theorem it_add (f : Nat → Nat) (x : Nat) : ∀ i j, it f (i + j) x = it f i (it f j x) := by
  intro i j
  induction i with
  | zero => rw [Nat.zero_add]; rfl
  | succ i ih => rw [show i + 1 + j = (i + j) + 1 by omega]; show f (it f (i + j) x) = f (it f i (it f j x)); rw [ih]
theorem it_back {f : Nat → Nat} {M : Nat} (h : Bij f M) {x y : Nat} (hx : x < M) (hy : y < M) : ∀ i, it f i x = it f i y → x = y := by
  intro i
  induction i with
  | zero => exact id
  | succ i ih => intro e; exact ih (h.inj _ _ (it_lt h hx i) (it_lt h hy i) e)
theorem period {f : Nat → Nat} {M : Nat} (h : Bij f M) {x : Nat} (hx : x < M) : ∃ p, 0 < p ∧ it f p x = x := by
  refine Classical.byContradiction fun hn => ?_
  have hp : ∀ p, 0 < p → it f p x ≠ x := fun p h0 e => hn ⟨p, h0, e⟩
  have hd : ((List.range (M + 1)).map fun i => it f i x).Nodup := by
    unfold List.Nodup
    rw [List.pairwise_map]
    refine List.Pairwise.imp ?_ (List.pairwise_lt_range (n := M + 1))
    intro i j hij e
    have e2 : it f i x = it f i (it f (j - i) x) := by rw [← it_add, show i + (j - i) = j by omega]; exact e
    exact hp (j - i) (by omega) (it_back h hx (it_lt h hx _) i e2).symm
  have hl := hd.length_le_of_subset (l₂ := List.range M) (fun y hy => by
    obtain ⟨i, -, rfl⟩ := List.mem_map.1 hy
    exact List.mem_range.2 (it_lt h hx i))
  rw [List.length_map, List.length_range, List.length_range] at hl
  omega
/-- The edges of a renaming. -/
def eds (f : Nat → Nat) (M : Nat) : List (Nat × Nat) := (List.range M).map fun i => (i, f i)
theorem eds_mem {f : Nat → Nat} {M i : Nat} (h : i < M) : (i, f i) ∈ eds f M := List.mem_map.2 ⟨i, List.mem_range.2 h, rfl⟩
theorem eds_lt {f : Nat → Nat} {M : Nat} (h : ∀ x, x < M → f x < M) : ∀ e, e ∈ eds f M → e.1 < M ∧ e.2 < M := fun e he => by
  obtain ⟨i, hi, rfl⟩ := List.mem_map.1 he
  exact ⟨List.mem_range.1 hi, h _ (List.mem_range.1 hi)⟩
theorem closed_eds {f : Nat → Nat} {M : Nat} {S : Nat → Prop} : Closed (eds f M) S ↔ ∀ i, i < M → (S i ↔ S (f i)) := by
  constructor
  · intro h i hi
    exact h _ (eds_mem hi)
  · intro h e he
    obtain ⟨i, hi, rfl⟩ := List.mem_map.1 he
    exact h i (List.mem_range.1 hi)
theorem con_f {f : Nat → Nat} {M x : Nat} (hx : x < M) : Con (eds f M) x (f x) := Con.edge (eds_mem hx)
theorem con_it {f : Nat → Nat} {M : Nat} (h : Bij f M) {x : Nat} (hx : x < M) : ∀ i, Con (eds f M) x (it f i x) := by
  intro i
  induction i with
  | zero => exact Con.refl _ _
  | succ i ih => exact ih.trans (con_f (it_lt h hx i))
theorem it_con {f : Nat → Nat} {M : Nat} (h : Bij f M) {x y : Nat} (hx : x < M) (hc : Con (eds f M) x y) : ∃ i, it f i x = y := by
  refine hc (fun z => ∃ i, it f i x = z) (closed_eds.2 fun z hz => ⟨?_, ?_⟩) ⟨0, rfl⟩
  · rintro ⟨i, rfl⟩
    exact ⟨i + 1, rfl⟩
  · rintro ⟨i, e⟩
    cases i with
    | zero =>
      obtain ⟨p, h0, hp⟩ := period h hx
      cases p with
      | zero => omega
      | succ p =>
        refine ⟨p, h.inj _ _ (it_lt h hx p) hz ?_⟩
        have e1 : x = f z := e
        exact Eq.trans hp e1
    | succ i => exact ⟨i, h.inj _ _ (it_lt h hx i) hz e⟩
theorem first_of {P : Nat → Prop} (h : ∃ i, P i) : ∃ r, P r ∧ ∀ i, i < r → ¬ P i := by
  obtain ⟨i, hi⟩ := h
  induction i using Nat.strongRecOn with
  | ind i ih =>
    by_cases hs : ∃ j, j < i ∧ P j
    · obtain ⟨j, hj, hp⟩ := hs
      exact ih j hj hp
    · exact ⟨i, hi, fun j hj hp => hs ⟨j, hj, hp⟩⟩
/-- Two places traded. -/
def tr (f : Nat → Nat) (a b x : Nat) : Nat := if x = a then f b else if x = b then f a else f x
theorem tr_a (f : Nat → Nat) (a b : Nat) : tr f a b a = f b := by simp [tr]
theorem tr_b (f : Nat → Nat) (a b : Nat) : tr f a b b = f a := by
  unfold tr
  by_cases h : b = a
  · rw [if_pos h, h]
  · rw [if_neg h, if_pos rfl]
theorem tr_o (f : Nat → Nat) {a b x : Nat} (h1 : x ≠ a) (h2 : x ≠ b) : tr f a b x = f x := by simp [tr, h1, h2]
theorem tr_tr (f : Nat → Nat) (a b x : Nat) : tr (tr f a b) a b x = f x := by
  by_cases h1 : x = a
  · rw [h1, tr_a, tr_b]
  · by_cases h2 : x = b
    · rw [h2, tr_b, tr_a]
    · rw [tr_o _ h1 h2, tr_o _ h1 h2]
theorem Bij.tr {f : Nat → Nat} {M : Nat} (h : Bij f M) {a b : Nat} (ha : a < M) (hb : b < M) : Bij (tr f a b) M := by
  have key : ∀ x, x < M → ∃ z, z < M ∧ Proofs.Ytagaajlbkfkaiaa.tr f a b x = f z ∧ (x = a → z = b) ∧ (x = b → z = a) ∧ (x ≠ a → x ≠ b → z = x) := by
    intro x hx
    by_cases h1 : x = a
    · exact ⟨b, hb, by rw [h1, tr_a], fun _ => rfl, fun e => by omega, fun q => absurd h1 q⟩
    · by_cases h2 : x = b
      · exact ⟨a, ha, by rw [h2, tr_b], fun q => absurd q h1, fun _ => rfl, fun _ q => absurd h2 q⟩
      · exact ⟨x, hx, tr_o f h1 h2, fun q => absurd q h1, fun q => absurd q h2, fun _ _ => rfl⟩
  refine ⟨fun x hx => ?_, fun x y hx hy e => ?_⟩
  · obtain ⟨z, hz, e, -⟩ := key x hx
    rw [e]
    exact h.lt z hz
  · obtain ⟨z, hz, e1, p1, p2, p3⟩ := key x hx
    obtain ⟨u, hu, e2, q1, q2, q3⟩ := key y hy
    have e3 : z = u := h.inj z u hz hu (by rw [← e1, ← e2, e])
    by_cases c1 : x = a
    · have := p1 c1
      by_cases c2 : y = a
      · omega
      · by_cases c3 : y = b
        · have := q2 c3; omega
        · have := q3 c2 c3; omega
    · by_cases c1b : x = b
      · have := p2 c1b
        by_cases c2 : y = a
        · have := q1 c2; omega
        · by_cases c3 : y = b
          · omega
          · have := q3 c2 c3; omega
      · have := p3 c1 c1b
        by_cases c2 : y = a
        · have := q1 c2; omega
        · by_cases c3 : y = b
          · have := q2 c3; omega
          · have := q3 c2 c3; omega
theorem con_tr {f : Nat → Nat} {M : Nat} (h : Bij f M) {a b : Nat} (ha : a < M) (hb : b < M) (hn : ¬ Con (eds f M) a b) : Con (eds (tr f a b) M) a b := by
  intro S hS hSa
  have hS' := closed_eds.1 hS
  have h1 : S (f b) := by have := (hS' a ha).1 hSa; rwa [tr_a] at this
  obtain ⟨p, h0, hp⟩ := period h hb
  have key : ∀ i, S b ∨ S (it f (i + 1) b) := by
    intro i
    induction i with
    | zero => exact Or.inr h1
    | succ i ih =>
      rcases ih with ih | ih
      · exact Or.inl ih
      · by_cases e : it f (i + 1) b = b
        · rw [e] at ih; exact Or.inl ih
        · have ea : it f (i + 1) b ≠ a := fun q => hn (q ▸ (con_it h hb (i + 1)).symm)
          have := (hS' _ (it_lt h hb (i + 1))).1 ih
          rw [tr_o f ea e] at this
          exact Or.inr this
  have := key (p - 1)
  rw [show p - 1 + 1 = p by omega, hp] at this
  exact this.elim id id
/-- Not joined ahead: joined behind, and nothing else. -/
theorem con_join {f : Nat → Nat} {M : Nat} (h : Bij f M) {a b : Nat} (ha : a < M) (hb : b < M) (hn : ¬ Con (eds f M) a b) (x y : Nat) : Con (eds (tr f a b) M) x y ↔ Con (eds f M ++ [(a, b)]) x y := by
  have hab := con_tr h ha hb hn
  constructor
  · intro hc S hS
    refine hc S (closed_eds.2 fun i hi => ?_)
    have h1 := closed_eds.1 (fun e he => hS e (List.mem_append_left _ he) : Closed (eds f M) S)
    have h2 : S a ↔ S b := hS (a, b) (List.mem_append_right _ (List.Mem.head _))
    by_cases e1 : i = a
    · rw [e1, tr_a, h2]; exact h1 b hb
    · by_cases e2 : i = b
      · rw [e2, tr_b, ← h2]; exact h1 a ha
      · rw [tr_o f e1 e2]; exact h1 i hi
  · intro hc S hS
    have h1 := closed_eds.1 hS
    have h2 : S a ↔ S b := ⟨hab S hS, hab.symm S hS⟩
    refine hc S fun e he => ?_
    rcases List.mem_append.1 he with he | he
    · obtain ⟨i, hi, rfl⟩ := List.mem_map.1 he
      have hi := List.mem_range.1 hi
      show S i ↔ S (f i)
      by_cases e1 : i = a
      · rw [e1, h2]; have := h1 b hb; rwa [tr_b] at this
      · by_cases e2 : i = b
        · rw [e2, ← h2]; have := h1 a ha; rwa [tr_a] at this
        · have := h1 i hi; rwa [tr_o f e1 e2] at this
    · rw [List.mem_singleton.1 he]; exact h2
/-- Joined ahead: apart behind. -/
theorem con_part {f : Nat → Nat} {M : Nat} (h : Bij f M) {a b : Nat} (ha : a < M) (hb : b < M) (hab : a ≠ b) (hc : Con (eds f M) a b) : ¬ Con (eds (tr f a b) M) a b := by
  intro hcon
  obtain ⟨r, hr, hmin⟩ := first_of (it_con h hb hc.symm)
  have r0 : 0 < r := Nat.pos_of_ne_zero fun q => by rw [q] at hr; exact hab hr.symm
  have hB := h.tr ha hb
  have nb : ∀ i, 1 ≤ i → i ≤ r → it f i b ≠ b := fun i h1 h2 e => by
    by_cases e2 : i = r
    · rw [e2, hr] at e; exact hab e
    · refine hmin (r - i) (by omega) ?_
      have := it_add f b (r - i) i
      rw [e, show r - i + i = r by omega, hr] at this
      exact this.symm
  have nxt : ∀ i, 1 ≤ i → i < r → tr f a b (it f i b) = it f (i + 1) b := fun i h1 h2 => tr_o f (hmin i h2) (nb i h1 (by omega))
  have hS : Closed (eds (tr f a b) M) fun z => ∃ i, 1 ≤ i ∧ i ≤ r ∧ it f i b = z := closed_eds.2 fun z hz => by
    constructor
    · rintro ⟨i, h1, h2, rfl⟩
      by_cases e : i = r
      · rw [e, hr, tr_a]; exact ⟨1, Nat.le_refl _, r0, rfl⟩
      · exact ⟨i + 1, by omega, by omega, (nxt i h1 (by omega)).symm⟩
    · rintro ⟨i, h1, h2, e⟩
      by_cases e1 : i = 1
      · refine ⟨r, r0, Nat.le_refl _, ?_⟩
        rw [hr]
        refine hB.inj a z ha hz ?_
        rw [tr_a, ← e, e1]
        rfl
      · refine ⟨i - 1, by omega, by omega, ?_⟩
        refine hB.inj _ z (it_lt h hb _) hz ?_
        rw [nxt (i - 1) (by omega) (by omega), ← e, show i - 1 + 1 = i by omega]
  obtain ⟨i, h1, h2, e⟩ := hcon _ hS ⟨r, r0, Nat.le_refl _, hr⟩
  exact nb i h1 h2 e

/-- How many are the lowest of theirs, among some. -/
def rq (W : List Nat) (Q : Nat → Bool) : Nat → Nat
  | 0 => 0
  | k + 1 => rq W Q k + (if W.getD k 0 = k ∧ Q k = true then 1 else 0)
theorem rq_mer {Ed : List (Nat × Nat)} {n : Nat} {W : List Nat} (h : Least Ed n W) (Q : Nat → Bool) {x y : Nat} (hx : x < n) (hy : y < n) (hne : W.getD x 0 ≠ W.getD y 0) : ∀ k, k ≤ n → rq (mer W x y) Q k + (if max (W.getD x 0) (W.getD y 0) < k ∧ Q (max (W.getD x 0) (W.getD y 0)) = true then 1 else 0) = rq W Q k := by
  have rx := h.root hx
  have ry := h.root hy
  generalize hmx : max (W.getD x 0) (W.getD y 0) = m
  have hmr : W.getD m 0 = m := by
    rcases Nat.le_total (W.getD x 0) (W.getD y 0) with hle | hle
    · have : m = W.getD y 0 := by omega
      rw [this]; exact ry
    · have : m = W.getD x 0 := by omega
      rw [this]; exact rx
  intro k
  induction k with
  | zero => intro _; simp [rq]
  | succ k ih =>
    intro hk
    have i1 := ih (by omega)
    have hm := mer_at W x y k (by rw [h.1]; omega)
    rw [hmx] at hm
    simp only [rq]
    by_cases he : k = m
    · subst he
      rw [if_pos hmr] at hm
      rw [if_neg (by omega)] at i1
      rw [if_neg (show ¬ ((mer W x y).getD k 0 = k ∧ Q k = true) from fun q => by have := q.1; omega)]
      by_cases hq : Q k = true
      · rw [if_pos (show k < k + 1 ∧ Q k = true from ⟨by omega, hq⟩), if_pos (show W.getD k 0 = k ∧ Q k = true from ⟨hmr, hq⟩)]; omega
      · rw [if_neg (show ¬ (k < k + 1 ∧ Q k = true) from fun q => hq q.2), if_neg (show ¬ (W.getD k 0 = k ∧ Q k = true) from fun q => hq q.2)]; omega
    · have hiff : ((mer W x y).getD k 0 = k) ↔ (W.getD k 0 = k) := by
        by_cases hr : W.getD k 0 = k
        · rw [if_neg (by omega)] at hm
          rw [hm]
        · have h2 : ¬ (mer W x y).getD k 0 = k := by
            rw [hm]
            split
            · intro e
              rcases Nat.le_total (W.getD x 0) (W.getD y 0) with hle2 | hle2
              · have e1 : k = W.getD x 0 := by omega
                exact hr (by rw [e1]; exact rx)
              · have e1 : k = W.getD y 0 := by omega
                exact hr (by rw [e1]; exact ry)
            · exact hr
          exact ⟨fun q => absurd q h2, fun q => absurd q hr⟩
      rw [show (if (mer W x y).getD k 0 = k ∧ Q k = true then 1 else 0) = (if W.getD k 0 = k ∧ Q k = true then 1 else 0) by simp only [hiff]]
      by_cases hq : m < k ∧ Q m = true
      · rw [if_pos hq] at i1
        rw [if_pos (show m < k + 1 ∧ Q m = true from ⟨by omega, hq.2⟩)]
        omega
      · rw [if_neg hq] at i1
        rw [if_neg (show ¬ (m < k + 1 ∧ Q m = true) from fun q => hq ⟨by omega, q.2⟩)]
        omega
/-- The rings of a renaming, each by its lowest; how many lie among some. -/
def cyW (f : Nat → Nat) (M : Nat) : List Nat := levR (List.range M) (eds f M) M
theorem cyW_least {f : Nat → Nat} {M : Nat} (h : ∀ x, x < M → f x < M) : Least (eds f M) M (cyW f M) := levR_least (eds_lt h) M (Nat.le_refl _)
def cyN (f : Nat → Nat) (M : Nat) (Q : Nat → Bool) : Nat := rq (cyW f M) Q M
theorem least_congr {E F : List (Nat × Nat)} {n : Nat} {W : List Nat} (h : Least E n W) (e : ∀ x y, Con E x y ↔ Con F x y) : Least F n W :=
  ⟨h.1, fun v hv => ⟨(e _ _).1 (h.2 v hv).1, fun u hu => (h.2 v hv).2 u ((e _ _).2 hu)⟩⟩
/-- Two rings become one. -/
theorem cyN_join {f : Nat → Nat} {M : Nat} (h : Bij f M) (Q : Nat → Bool) {a b : Nat} (ha : a < M) (hb : b < M) (hn : ¬ Con (eds f M) a b) (hQ : ∀ x y, x < M → Con (eds f M) x y → Q x = Q y) (hab : Q a = Q b) : cyN (tr f a b) M Q + (if Q a = true then 1 else 0) = cyN f M Q := by
  have hW := cyW_least h.lt
  have hW' := cyW_least (h.tr ha hb).lt
  have e : cyW (tr f a b) M = mer (cyW f M) a b := hW'.eq (least_congr (mer_least hW a b ha hb (eds_lt h.lt)) fun x y => (con_join h ha hb hn x y).symm)
  have hne : (cyW f M).getD a 0 ≠ (cyW f M).getD b 0 := fun q => hn ((hW.same ha hb).1 q)
  have hm := rq_mer hW Q ha hb hne M (Nat.le_refl _)
  have la := hW.lt ha
  have lb := hW.lt hb
  have qa := hQ a _ ha (hW.2 a ha).1
  have qb := hQ b _ hb (hW.2 b hb).1
  have qm : Q (max ((cyW f M).getD a 0) ((cyW f M).getD b 0)) = Q a := by
    rcases Nat.le_total ((cyW f M).getD a 0) ((cyW f M).getD b 0) with hle | hle
    · rw [Nat.max_eq_right hle, ← qb, hab]
    · rw [Nat.max_eq_left hle, ← qa]
  rw [qm] at hm
  unfold cyN
  rw [e, ← hm]
  by_cases hq : Q a = true
  · rw [if_pos hq, if_pos ⟨by omega, hq⟩]
  · rw [if_neg hq, if_neg fun q => hq q.2]
theorem eds_congr {f g : Nat → Nat} {M : Nat} (e : ∀ x, x < M → f x = g x) : eds f M = eds g M := by
  unfold eds
  refine List.map_congr_left fun i hi => ?_
  rw [e i (List.mem_range.1 hi)]
theorem cyN_congr {f g : Nat → Nat} {M : Nat} (e : ∀ x, x < M → f x = g x) (Q : Nat → Bool) : cyN f M Q = cyN g M Q := by
  unfold cyN cyW
  rw [eds_congr e]
/-- One ring becomes two. -/
theorem cyN_part {f : Nat → Nat} {M : Nat} (h : Bij f M) (Q : Nat → Bool) {a b : Nat} (ha : a < M) (hb : b < M) (hne : a ≠ b) (hc : Con (eds f M) a b) (hQ : ∀ x y, x < M → Con (eds f M) x y → Q x = Q y) : cyN f M Q + (if Q a = true then 1 else 0) = cyN (tr f a b) M Q := by
  have hn := con_part h ha hb hne hc
  have hB := h.tr ha hb
  have hQ' : ∀ x y, x < M → Con (eds (tr f a b) M) x y → Q x = Q y := fun x y hx hxy => by
    have := hxy (fun z => Q x = Q z) (closed_eds.2 fun i hi => by
      have e : Q i = Q (tr f a b i) := by
        by_cases e1 : i = a
        · rw [e1, tr_a, hQ a b ha hc]; exact hQ b _ hb (con_f hb)
        · by_cases e2 : i = b
          · rw [e2, tr_b, ← hQ a b ha hc]; exact hQ a _ ha (con_f ha)
          · rw [tr_o f e1 e2]; exact hQ i _ hi (con_f hi)
      rw [e]) rfl
    exact this
  have k := cyN_join hB Q ha hb hn hQ' (hQ a b ha hc)
  rw [cyN_congr (fun x _ => tr_tr f a b x)] at k
  exact k
end Go.Proofs.Ytagaajlbkfkaiaa
/- Slices as they are handed in, and copies of them. -/
namespace Go.Proofs.Ytagaajlbkfkaiaa
open Go.RowKit

/-- A slice that is handed in: nil; with no element; or its cells lie there. -/
def InAt (w : World) (B size : Nat) (v : Value) (n : Nat) (xs : List Value) : Prop :=
  (v = .slice none 0 0 ∧ n = 0) ∨ (∃ ad cap, v = .slice (some ad) 0 cap ∧ n = 0) ∨ ∃ b off cap, v = .slice (some ⟨b, off, none⟩) n cap ∧ b < B ∧ ∀ j, j < n * size → w.cell? ⟨b, off + j, none⟩ = xs[j]?
theorem InAt.on {w w' : World} {B size n : Nat} {v : Value} {xs : List Value} (h : InAt w B size v n xs) (hb : Below B w w') : InAt w' B size v n xs := by
  rcases h with h | h | ⟨b, off, cap, rfl, hlt, hc⟩
  · exact Or.inl h
  · exact Or.inr (Or.inl h)
  · exact Or.inr (Or.inr ⟨b, off, cap, rfl, hlt, fun j hj => bcell hb hlt (hc j hj)⟩)
/-- What a call owns lies there too. -/
theorem own_in {w : World} {B e size n : Nat} {v : Value} {xs : List Value} (h : w.ownsRow B e size v n xs) : InAt w w.heap.size size v n xs := by
  have h0 := h
  rcases h.2 with ⟨rfl, h1⟩ | ⟨g, cap, cur, rfl, _, _, _⟩
  · exact Or.inl ⟨rfl, h1⟩
  · exact Or.inr (Or.inr ⟨g, 0, cap, rfl, (h0.lt g rfl).2, fun j hj => by rw [Nat.zero_add]; exact h0.cellAt j hj⟩)
theorem InAt.up {w w' : World} {size n : Nat} {v : Value} {xs : List Value} (h : InAt w w.heap.size size v n xs) (hb : Below w.heap.size w w') : InAt w' w'.heap.size size v n xs := by
  rcases h.on hb with h | h | ⟨b, off, cap, e, hlt, hc⟩
  · exact Or.inl h
  · exact Or.inr (Or.inl h)
  · exact Or.inr (Or.inr ⟨b, off, cap, e, Nat.lt_of_lt_of_le hlt hb.size, hc⟩)
end Go.Proofs.Ytagaajlbkfkaiaa
