/- Lists of numbers that a call owns; the walk of Drawing.Walks. -/
import Derived.Test.YtdlmhcickcgnfaaW1
import Derived.Test.YtdlmhcickcgnfaaW2
namespace Go.Proofs.Ytdlmhcickcgnfaa
open Go.RowKit

/-- Numbers as cells. -/
def nats (l : List Nat) : List Value := l.map fun x => .int .i64 (x : Nat)
def bools (l : List Bool) : List Value := l.map fun x => .bool x
theorem nats_len (l : List Nat) : (nats l).length = l.length := by simp [nats]
theorem bools_len (l : List Bool) : (bools l).length = l.length := by simp [bools]
theorem nats_get (l : List Nat) (i : Nat) (h : i < l.length) : (nats l)[i]? = some (.int .i64 (l.getD i 0 : Nat)) := by simp [nats, List.getD, h]
theorem bools_get (l : List Bool) (i : Nat) (h : i < l.length) : (bools l)[i]? = some (.bool (l.getD i true)) := by simp [bools, List.getD, h]
theorem bools_set (l : List Bool) (i : Nat) (b : Bool) : (bools l).set i (.bool b) = bools (l.set i b) := by simp [bools, List.map_set]
theorem nats_app (l : List Nat) (x : Nat) : nats (l ++ [x]) = nats l ++ [.int .i64 (x : Nat)] := by simp [nats]
/-- A list of lists of numbers that a call itself owns. -/
def NatsOwn (w : World) (B : Nat) (v : Value) (L : List (List Nat)) : Prop :=
  ∃ ys : List Value, ys.length = L.length ∧ w.ownsRow B 22 1 v ys.length ys ∧ ∀ j, j < L.length → w.ownsRow B 3 1 (ys.getD j (.bool false)) (L.getD j []).length (nats (L.getD j []))
theorem NatsOwn.any {w w' : World} {B : Nat} {v : Value} {L : List (List Nat)} (h : NatsOwn w B v L) (hg : w.grownBy w' none) : NatsOwn w' B v L := by
  obtain ⟨ys, h1, h2, h3⟩ := h
  exact ⟨ys, h1, own_any h2 hg, fun j hj => own_any (h3 j hj) hg⟩
theorem NatsOwn.low {w : World} {B B' : Nat} {v : Value} {L : List (List Nat)} (h : NatsOwn w B v L) (hB : B' ≤ B) : NatsOwn w B' v L := by
  obtain ⟨ys, h1, h2, h3⟩ := h
  exact ⟨ys, h1, own_low h2 hB, fun j hj => own_low (h3 j hj) hB⟩
theorem grown_none {w w' : World} {row : Option Nat} (h : w.grownBy w' none) : w.grownBy w' row := ⟨h.os, h.tape, h.output, h.size, fun k hk _ => h.block k hk (by simp)⟩
theorem grown_new {W X Y : World} {row r2 : Option Nat} (h : W.grownBy X row) (g : X.grownBy Y r2) (hr : ∀ k, r2 = some k → W.heap.size ≤ k) : W.grownBy Y row :=
  ⟨g.os.trans h.os, g.tape.trans h.tape, g.output.trans h.output, Nat.le_trans h.size g.size, fun k hk hn => (g.block k (Nat.lt_of_lt_of_le hk h.size) (fun e => by have := hr k e.symm; omega)).trans (h.block k hk hn)⟩
def lenOf : Value → Nat
  | .slice _ n _ => n
  | _ => 0
theorem infoInt : (Try.prog.info? 3).map (fun i => (i.zero, i.size, i.bytes)) = some (some (.int .i64 0), 1, 8) := by kernel_rfl
theorem infoBool : (Try.prog.info? 4).map (fun i => (i.zero, i.size, i.bytes)) = some (some (.bool false), 1, 1) := by kernel_rfl
theorem infoInts : (Try.prog.info? 22).map (fun i => (i.zero, i.size, i.bytes)) = some (some (.slice none 0 0), 1, 24) := by kernel_rfl
theorem int_one (x : Int) : ∀ u ∈ [Value.int .i64 x], u.oneCell' = true := by
  intro u hu
  simp only [List.mem_singleton] at hu
  subst hu
  rfl
theorem made_false (n : Nat) : (madeCells (Value.bool false).cells (n * 1)).toList = bools (List.replicate n false) := by
  have e : (Value.bool false).cells = #[Value.bool false] := rfl
  rw [e, toList_madeCells_one, Nat.mul_one]
  simp [bools]

/-- Where the walk of Walks stands behind the arcs below i. -/
structure WkAt (w : World) (gS cS : Nat) (box : Array Value) (tb : TypeId) (n : Nat) (R : List (List Nat) × List Bool) (v3 : Value) (zs : List Value) (wr : World) : Prop where
  box : wr.heap[w.heap.size]? = some (.cells box tb (0, 0))
  seen : wr.ownsRow (w.heap.size + 1) 4 1 (.slice (some ⟨gS, 0, none⟩) (n + 1) cS) (n + 1) (bools R.2)
  len : zs.length = R.1.length
  rows : wr.ownsRow (w.heap.size + 1) 22 1 v3 zs.length zs
  each : ∀ j, j < zs.length → wr.ownsRow (w.heap.size + 1) 3 1 (zs.getD j (.bool false)) (R.1.getD j []).length (nats (R.1.getD j []))
  bel : Below w.heap.size w wr

theorem walksTo_next {f : Nat → Nat} {n i : Nat} {acc : List Nat} {seen : List Bool} (h : walkF f (n + 1) (walksTo f n i).2 (i + 1) [] = (acc, seen)) : walksTo f n (i + 1) = (if acc = [] then (walksTo f n i).1 else (walksTo f n i).1 ++ [acc], seen) := by
  simp only [walksTo]
  rw [h]

end Go.Proofs.Ytdlmhcickcgnfaa
