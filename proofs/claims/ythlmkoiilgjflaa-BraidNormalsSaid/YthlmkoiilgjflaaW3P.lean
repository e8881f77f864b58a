/- Several texts of the proof, one behind the other. -/
import Derived.Test.YthlmkoiilgjflaaW1P
import Derived.Test.YthlmkoiilgjflaaW2P
/- Lists of numbers that a call owns; the walk of Drawing.Walks. -/
namespace Go.Proofs.Ythlmkoiilgjflaa
open Go.RowKit

/-- Numbers as cells. -/
def nats (l : List Nat) : List Value := l.map fun x => .int .i64 (x : Nat)
def bools (l : List Bool) : List Value := l.map fun x => .bool x
theorem nats_len (l : List Nat) : (nats l).length = l.length := by simp [nats]
theorem bools_len (l : List Bool) : (bools l).length = l.length := by simp [bools]
theorem nats_get (l : List Nat) (i : Nat) (h : i < l.length) : (nats l)[i]? = some (.int .i64 (l.getD i 0 : Nat)) := by simp [nats, List.getD, h]
theorem bools_get (l : List Bool) (i : Nat) (h : i < l.length) : (bools l)[i]? = some (.bool (l.getD i true)) := by simp [bools, List.getD, h]
theorem bools_set (l : List Bool) (i : Nat) (b : Bool) : (bools l).set i (.bool b) = bools (l.set i b) := by simp [bools, List.map_set]
theorem nats_app (l : List Nat) (x : Nat) : nats (l ++ [x]) = nats l ++ [.int .i64 (x : Nat)] := by simp [nats]
/-- A list of lists of numbers that a call itself owns. -/
def NatsOwn (w : World) (B : Nat) (v : Value) (L : List (List Nat)) : Prop :=
  ∃ ys : List Value, ys.length = L.length ∧ w.ownsRow B 22 1 v ys.length ys ∧ ∀ j, j < L.length → w.ownsRow B 3 1 (ys.getD j (.bool false)) (L.getD j []).length (nats (L.getD j []))
theorem NatsOwn.any {w w' : World} {B : Nat} {v : Value} {L : List (List Nat)} (h : NatsOwn w B v L) (hg : w.grownBy w' none) : NatsOwn w' B v L := by
  obtain ⟨ys, h1, h2, h3⟩ := h
  exact ⟨ys, h1, own_any h2 hg, fun j hj => own_any (h3 j hj) hg⟩
theorem NatsOwn.low {w : World} {B B' : Nat} {v : Value} {L : List (List Nat)} (h : NatsOwn w B v L) (hB : B' ≤ B) : NatsOwn w B' v L := by
  obtain ⟨ys, h1, h2, h3⟩ := h
  exact ⟨ys, h1, own_low h2 hB, fun j hj => own_low (h3 j hj) hB⟩
theorem grown_none {w w' : World} {row : Option Nat} (h : w.grownBy w' none) : w.grownBy w' row := ⟨h.os, h.tape, h.output, h.size, fun k hk _ => h.block k hk (by simp)⟩
theorem grown_new {W X Y : World} {row r2 : Option Nat} (h : W.grownBy X row) (g : X.grownBy Y r2) (hr : ∀ k, r2 = some k → W.heap.size ≤ k) : W.grownBy Y row :=
  ⟨g.os.trans h.os, g.tape.trans h.tape, g.output.trans h.output, Nat.le_trans h.size g.size, fun k hk hn => (g.block k (Nat.lt_of_lt_of_le hk h.size) (fun e => by have := hr k e.symm; omega)).trans (h.block k hk hn)⟩
def lenOf : Value → Nat
  | .slice _ n _ => n
  | _ => 0
theorem infoInt : (Try.prog.info? 3).map (fun i => (i.zero, i.size, i.bytes)) = some (some (.int .i64 0), 1, 8) := by kernel_rfl
theorem infoBool : (Try.prog.info? 4).map (fun i => (i.zero, i.size, i.bytes)) = some (some (.bool false), 1, 1) := by kernel_rfl
theorem infoInts : (Try.prog.info? 22).map (fun i => (i.zero, i.size, i.bytes)) = some (some (.slice none 0 0), 1, 24) := by kernel_rfl
theorem int_one (x : Int) : ∀ u ∈ [Value.int .i64 x], u.oneCell' = true := by
  intro u hu
  simp only [List.mem_singleton] at hu
  subst hu
  rfl
theorem made_false (n : Nat) : (madeCells (Value.bool false).cells (n * 1)).toList = bools (List.replicate n false) := by
  have e : (Value.bool false).cells = #[Value.bool false] := rfl
  rw [e, toList_madeCells_one, Nat.mul_one]
  simp [bools]

/-- Where the walk of Walks stands behind the arcs below i. -/
structure WkAt (w : World) (gS cS : Nat) (box : Array Value) (tb : TypeId) (n : Nat) (R : List (List Nat) × List Bool) (v3 : Value) (zs : List Value) (wr : World) : Prop where
  box : wr.heap[w.heap.size]? = some (.cells box tb (0, 0))
  seen : wr.ownsRow (w.heap.size + 1) 4 1 (.slice (some ⟨gS, 0, none⟩) (n + 1) cS) (n + 1) (bools R.2)
  len : zs.length = R.1.length
  rows : wr.ownsRow (w.heap.size + 1) 22 1 v3 zs.length zs
  each : ∀ j, j < zs.length → wr.ownsRow (w.heap.size + 1) 3 1 (zs.getD j (.bool false)) (R.1.getD j []).length (nats (R.1.getD j []))
  bel : Below w.heap.size w wr

theorem walksTo_next {f : Nat → Nat} {n i : Nat} {acc : List Nat} {seen : List Bool} (h : walkF f (n + 1) (walksTo f n i).2 (i + 1) [] = (acc, seen)) : walksTo f n (i + 1) = (if acc = [] then (walksTo f n i).1 else (walksTo f n i).1 ++ [acc], seen) := by
  simp only [walksTo]
  rw [h]

end Go.Proofs.Ythlmkoiilgjflaa
/- The walks of ref.DiagramOf and gauss.Strands; rows that are the same. -/
namespace Go.Proofs.Ythlmkoiilgjflaa
open Go.RowKit

/-- The crossings as cells, one behind the other. -/
def crossCells (C : List Cr) : List Value := C.flatMap fun x => [.int .i64 x.a, .int .i64 x.b, .int .i64 x.c, .int .i64 x.d, .bool x.plus]
theorem cells_length (C : List Cr) : (crossCells C).length = C.length * 5 := by
  induction C with
  | nil => rfl
  | cons t l ih => simp [crossCells] at *; omega
theorem cells_get (C : List Cr) (i : Nat) (hi : i < C.length) : (crossCells C)[i * 5]? = some (.int .i64 (C.getD i Cr.none).a) ∧ (crossCells C)[i * 5 + 1]? = some (.int .i64 (C.getD i Cr.none).b) ∧ (crossCells C)[i * 5 + 2]? = some (.int .i64 (C.getD i Cr.none).c) ∧ (crossCells C)[i * 5 + 3]? = some (.int .i64 (C.getD i Cr.none).d) ∧ (crossCells C)[i * 5 + 4]? = some (.bool (C.getD i Cr.none).plus) := by
  induction C generalizing i with
  | nil => simp at hi
  | cons t l ih =>
    have e : crossCells (t :: l) = .int .i64 t.a :: .int .i64 t.b :: .int .i64 t.c :: .int .i64 t.d :: .bool t.plus :: crossCells l := rfl
    cases i with
    | zero => rw [e]; exact ⟨rfl, rfl, rfl, rfl, rfl⟩
    | succ i =>
      have := ih i (by simpa using hi)
      have e1 : (i + 1) * 5 = i * 5 + 1 + 1 + 1 + 1 + 1 := by omega
      rw [e, e1]
      exact this
theorem cells_one (C : List Cr) : ∀ u ∈ crossCells C, u.oneCell' = true := by
  intro u hu
  simp only [crossCells, List.mem_flatMap] at hu
  obtain ⟨t, _, ht⟩ := hu
  simp at ht
  rcases ht with rfl | rfl | rfl | rfl | rfl <;> rfl
theorem cells_at {w : World} {b off : Nat} {C : List Cr} (h : CrossAt w b off C) : ∀ j u, (crossCells C)[j]? = some u → w.cell? ((⟨b, off, none⟩ : Addr).add j) = some u := by
  intro j u hj
  have hlt : j < (crossCells C).length := by
    rcases Nat.lt_or_ge j (crossCells C).length with h | h
    · exact h
    · rw [List.getElem?_eq_none h] at hj; cases hj
  rw [cells_length] at hlt
  have hi : j / 5 < C.length := by omega
  have g := cells_get C (j / 5) hi
  have c := h (j / 5) hi
  rw [Addr.add_lit]
  have h5 : j % 5 = 0 ∨ j % 5 = 1 ∨ j % 5 = 2 ∨ j % 5 = 3 ∨ j % 5 = 4 := by omega
  rcases h5 with e | e | e | e | e
  · rw [show j / 5 * 5 = j by omega] at g c
    rw [g.1] at hj
    rw [← hj]
    exact c.1
  · rw [show j / 5 * 5 + 1 = j by omega] at g
    rw [show off + j / 5 * 5 + 1 = off + j by omega] at c
    rw [g.2.1] at hj
    rw [← hj]
    exact c.2.1
  · rw [show j / 5 * 5 + 2 = j by omega] at g
    rw [show off + j / 5 * 5 + 2 = off + j by omega] at c
    rw [g.2.2.1] at hj
    rw [← hj]
    exact c.2.2.1
  · rw [show j / 5 * 5 + 3 = j by omega] at g
    rw [show off + j / 5 * 5 + 3 = off + j by omega] at c
    rw [g.2.2.2.1] at hj
    rw [← hj]
    exact c.2.2.2.1
  · rw [show j / 5 * 5 + 4 = j by omega] at g
    rw [show off + j / 5 * 5 + 4 = off + j by omega] at c
    rw [g.2.2.2.2] at hj
    rw [← hj]
    exact c.2.2.2.2
theorem crs_own {w : World} {B e : Nat} {v : Value} {C : List Cr} (h : w.ownsRow B e 5 v C.length (crossCells C)) (hn : C.length ≤ maxLen) : Crs w w.heap.size v C := by
  have h0 := h
  rcases h.2 with ⟨rfl, h1⟩ | ⟨g, cap, cur, rfl, _, _, _⟩
  · exact ⟨none, 0, by rw [h1], hn, fun hp => by omega⟩
  · refine ⟨some ⟨g, 0, none⟩, cap, rfl, hn, fun _ => ⟨g, 0, rfl, (h0.lt g rfl).2, fun i hi => ?_⟩⟩
    have g0 := cells_get C i hi
    rw [Nat.zero_add]
    exact ⟨(h0.cellAt (i * 5) (by omega)).trans g0.1, (h0.cellAt (i * 5 + 1) (by omega)).trans g0.2.1, (h0.cellAt (i * 5 + 2) (by omega)).trans g0.2.2.1, (h0.cellAt (i * 5 + 3) (by omega)).trans g0.2.2.2.1, (h0.cellAt (i * 5 + 4) (by omega)).trans g0.2.2.2.2⟩
/-- A slice of crossings as it is handed in. -/
def CrsW (w : World) (B : Nat) (v : Value) (C : List Cr) : Prop :=
  (v = .slice none 0 0 ∧ C = []) ∨ (∃ ad cap, v = .slice (some ad) 0 cap ∧ C = []) ∨ ∃ b off cap, v = .slice (some ⟨b, off, none⟩) C.length cap ∧ b < B ∧ CrossAt w b off C
theorem CrsW.crs {w : World} {B : Nat} {v : Value} {C : List Cr} (h : CrsW w B v C) (hn : C.length ≤ maxLen) : Crs w B v C := by
  rcases h with ⟨rfl, rfl⟩ | ⟨ad, cap, rfl, rfl⟩ | ⟨b, off, cap, rfl, hlt, hC⟩
  · exact ⟨none, 0, rfl, hn, fun hp => by simp at hp⟩
  · exact ⟨some ad, cap, rfl, hn, fun hp => by simp at hp⟩
  · exact ⟨some ⟨b, off, none⟩, cap, rfl, hn, fun _ => ⟨b, off, rfl, hlt, hC⟩⟩
theorem CrsW.up {w w' : World} {v : Value} {C : List Cr} (h : CrsW w w.heap.size v C) (hb : Below w.heap.size w w') : CrsW w' w'.heap.size v C := by
  rcases h with h | h | ⟨b, off, cap, hv, hlt, hC⟩
  · exact Or.inl h
  · exact Or.inr (Or.inl h)
  · exact Or.inr (Or.inr ⟨b, off, cap, hv, Nat.lt_of_lt_of_le hlt hb.size, hC.on hb hlt⟩)
theorem own_terms {w : World} {B e n g c : Nat} {l : List (Int × Int)} (h : w.ownsRow B e 2 (.slice (some ⟨g, 0, none⟩) n c) n (flat l)) (hl : l.length = n) : TermsAt w g 0 l := by
  intro i hi
  have g0 := flat_get l i hi
  rw [Nat.zero_add]
  exact ⟨(h.cellAt (i * 2) (by omega)).trans g0.1, (h.cellAt (i * 2 + 1) (by omega)).trans g0.2⟩
end Go.Proofs.Ythlmkoiilgjflaa
