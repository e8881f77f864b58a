/- Several texts of the proof, one behind the other. -/
import Derived.Test.YthlmkoiilgjflaaBR6P
/- Texts of a braid: the walks of braid.act and braid.Act. -/
namespace Go.Proofs.Ythlmkoiilgjflaa
open Go.RowKit

/-- A list of numbers to be read, which does not lie in block g. -/
def RdX (W : World) (g : Nat) (v : Value) (n : Nat) (xs : List Value) : Prop := ∃ a c, v = .slice a n c ∧ (a = none → c = 0) ∧ (0 < n → ∃ b off, a = some ⟨b, off, none⟩ ∧ b < W.heap.size ∧ b ≠ g ∧ (∃ cs fz, W.heap[b]? = some (.cells cs 3 fz)) ∧ ∀ j, j < n → W.cell? ⟨b, off + j, none⟩ = xs[j]?)
theorem RdX.rd {W : World} {g n : Nat} {v : Value} {xs : List Value} (h : RdX W g v n xs) : RdAt W W.heap.size 1 v n xs := by
  obtain ⟨a, c, rfl, -, f⟩ := h
  refine ⟨a, c, rfl, fun h0 => ?_⟩
  obtain ⟨b, off, rfl, h1, -, -, h3⟩ := f h0
  exact ⟨b, off, rfl, h1, fun j hj => h3 j (by omega)⟩
theorem RdX.inn {W : World} {g n : Nat} {v : Value} {xs : List Value} (h : RdX W g v n xs) : InAt W W.heap.size 1 v n xs := by
  obtain ⟨a, c, rfl, h0, f⟩ := h
  cases n with
  | zero =>
    cases a with
    | none => rw [h0 rfl]; exact Or.inl ⟨rfl, rfl⟩
    | some ad => exact Or.inr (Or.inl ⟨ad, c, rfl, rfl⟩)
  | succ n =>
    obtain ⟨b, off, rfl, h1, -, -, h3⟩ := f (by omega)
    exact Or.inr (Or.inr ⟨b, off, c, rfl, h1, fun j hj => h3 j (by omega)⟩)
theorem RdX.grown {W W' : World} {g n : Nat} {v : Value} {xs : List Value} (h : RdX W g v n xs) (hg : W.grownBy W' (some g)) : RdX W' g v n xs := by
  obtain ⟨a, c, rfl, h0, f⟩ := h
  refine ⟨a, c, rfl, h0, fun h0 => ?_⟩
  obtain ⟨b, off, rfl, h1, h2, ⟨cs, fz, h4⟩, h3⟩ := f h0
  have hb := hg.block b h1 (fun e => h2 (Option.some.inj e))
  refine ⟨b, off, rfl, Nat.lt_of_lt_of_le h1 hg.size, h2, ⟨cs, fz, hb.trans h4⟩, fun j hj => ?_⟩
  rw [← h3 j hj]
  unfold World.cell?
  simp only []
  rw [hb]
theorem RdX.any {W W' : World} {g n : Nat} {v : Value} {xs : List Value} (h : RdX W g v n xs) (hg : W.grownBy W' none) : RdX W' g v n xs :=
  h.grown ⟨hg.os, hg.tape, hg.output, hg.size, fun k hk _ => hg.block k hk (by simp)⟩
/-- The list of texts has moved to another block. -/
theorem RdX.move {W : World} {g g' n : Nat} {v : Value} {xs : List Value} {cs : Array Value} {fz : Nat × Nat} (h : RdX W g v n xs) (hg : W.heap[g']? = some (.cells cs 22 fz)) : RdX W g' v n xs := by
  obtain ⟨a, c, rfl, h0, f⟩ := h
  refine ⟨a, c, rfl, h0, fun h0 => ?_⟩
  obtain ⟨b, off, rfl, h1, h2, ⟨cs', fz', h4⟩, h3⟩ := f h0
  refine ⟨b, off, rfl, h1, fun e => ?_, ⟨cs', fz', h4⟩, h3⟩
  rw [e, hg] at h4
  injection h4 with h5
  injection h5 with h6 h7
  exact absurd h7 (by decide)
theorem RdX.of_own {W : World} {B g n : Nat} {v : Value} {xs : List Value} (h : W.ownsRow B 3 1 v n xs) (hg : g < B) : RdX W g v n xs := by
  have h0 := h
  rcases h.2 with ⟨rfl, h1⟩ | ⟨q, cap, cur, rfl, hB, hq, _⟩
  · exact ⟨none, 0, by rw [h1], fun _ => rfl, fun hp => by omega⟩
  · exact ⟨some ⟨q, 0, none⟩, cap, rfl, (fun e => by cases e), fun _ => ⟨q, 0, rfl, (h0.lt q rfl).2, by omega, ⟨_, _, hq⟩, fun j hj => by rw [Nat.zero_add]; exact h0.cellAt j (by omega)⟩⟩
theorem RdX.of_box {W : World} {g q : Nat} {x : Int} (h : W.heap[q]? = some (.cells #[.int .i64 x] 3 (0, 0))) (hq : q ≠ g) : RdX W g (.slice (some ⟨q, 0, none⟩) 1 1) 1 (intsV [x]) := by
  refine ⟨_, _, rfl, (fun e => by cases e), fun _ => ⟨q, 0, rfl, (Array.getElem?_eq_some_iff.1 h).1, hq, ⟨_, _, h⟩, fun j hj => ?_⟩⟩
  obtain rfl : j = 0 := by omega
  exact block_cell h rfl
/-- Texts, the list of them a row of the call's own. -/
structure TxAt (W : World) (B g cap n : Nat) (T : List (List Int)) : Prop where
  ln : T.length = n
  out : ∃ ys : List Value, W.ownsRow B 22 1 (.slice (some ⟨g, 0, none⟩) n cap) n ys ∧ ∀ j, j < n → RdX W g (ys.getD j (.bool false)) (T.getD j []).length (intsV (T.getD j []))
theorem TxAt.any {W W' : World} {B g cap n : Nat} {T : List (List Int)} (h : TxAt W B g cap n T) (hg : W.grownBy W' none) : TxAt W' B g cap n T := by
  obtain ⟨ys, h1, h2⟩ := h.out
  exact ⟨h.ln, ys, own_any h1 hg, fun j hj => (h2 j hj).any hg⟩
theorem TxAt.lt {W : World} {B g cap n : Nat} {T : List (List Int)} (h : TxAt W B g cap n T) : B ≤ g ∧ g < W.heap.size := by
  obtain ⟨ys, h1, -⟩ := h.out
  exact h1.lt g rfl
theorem TxAt.frozen {W : World} {B g cap n : Nat} {T : List (List Int)} (h : TxAt W B g cap n T) (j : Nat) : W.frozen? ⟨g, j, none⟩ = false := by
  obtain ⟨ys, h1, -⟩ := h.out
  exact h1.frozenAt j
theorem TxAt.row {W : World} {B g cap n : Nat} {T : List (List Int)} (h : TxAt W B g cap n T) (j : Nat) (hj : j < n) : ∃ a c, W.cell? ⟨g, j, none⟩ = some (.slice a (T.getD j []).length c) ∧ RdX W g (.slice a (T.getD j []).length c) (T.getD j []).length (intsV (T.getD j [])) := by
  obtain ⟨ys, h1, h2⟩ := h.out
  have hr := h2 j hj
  obtain ⟨a, c, e, -⟩ := hr
  have hr := h2 j hj
  rw [e] at hr
  refine ⟨a, c, ?_, hr⟩
  rw [h1.cellAt j (by omega), ← e]
  have hl : j < ys.length := by rw [h1.1]; omega
  simp [List.getD, hl]
theorem getD_setV (ys : List Value) (i j : Nat) (v : Value) (h : i < ys.length) : (ys.set i v).getD j (.bool false) = if j = i then v else ys.getD j (.bool false) := by
  rw [List.getD_eq_getElem?_getD, List.getElem?_set]
  by_cases e : i = j
  · subst e; rw [if_pos rfl, if_pos h, if_pos rfl]; rfl
  · rw [if_neg e, if_neg (fun q => e q.symm), List.getD_eq_getElem?_getD]
/-- One text laid anew. -/
theorem TxAt.one {W : World} {B g cap n : Nat} {T : List (List Int)} (h : TxAt W B g cap n T) {i : Nat} (hi : i < n) {v : Value} {r : List Int} (hr : RdX W g v r.length (intsV r)) : TxAt (W.setCell ⟨g, i, none⟩ v) B g cap n (T.set i r) ∧ W.grownBy (W.setCell ⟨g, i, none⟩ v) (some g) := by
  obtain ⟨ys, h1, h2⟩ := h.out
  have hst := h1.stored i v
  have hl : i < ys.length := by rw [h1.1]; omega
  refine ⟨⟨by rw [List.length_set]; exact h.ln, ys.set i v, hst.1, fun j hj => ?_⟩, hst.2⟩
  rw [getD_setV _ _ _ _ hl, getD_setL]
  by_cases e : j = i
  · rw [if_pos e, if_pos ⟨e, by rw [h.ln]; exact hi⟩]; exact hr.grown hst.2
  · rw [if_neg e, if_neg (fun q => e q.1)]; exact (h2 j hj).grown hst.2
theorem TxAt.two {W : World} {B g cap n : Nat} {T : List (List Int)} (h : TxAt W B g cap n T) {i j : Nat} (hi : i < n) (hj : j < n) {u v : Value} {r s : List Int} (hr : RdX W g u r.length (intsV r)) (hs : RdX W g v s.length (intsV s)) : TxAt ((W.setCell ⟨g, j, none⟩ u).setCell ⟨g, i, none⟩ v) B g cap n ((T.set j r).set i s) ∧ W.grownBy ((W.setCell ⟨g, j, none⟩ u).setCell ⟨g, i, none⟩ v) (some g) := by
  obtain ⟨h1, h2⟩ := h.one hj hr
  obtain ⟨h3, h4⟩ := h1.one hi (hs.grown h2)
  exact ⟨h3, grown_trans h2 h4⟩
theorem TxAt.ints {W : World} {B g cap n : Nat} {T : List (List Int)} (h : TxAt W B g cap n T) : IntsRd W W.heap.size (.slice (some ⟨g, 0, none⟩) n cap) T := by
  obtain ⟨ys, h1, h2⟩ := h.out
  refine ⟨ys, by rw [h1.1, h.ln, Nat.mul_one], by rw [h.ln]; exact own_rd h1, fun j hj => (h2 j (by rw [← h.ln]; exact hj)).rd⟩
/-- Three texts in a row of their own. -/
theorem ints_three {W : World} {q : Nat} {va vb vc : Value} {a b c : List Int} (hq : W.heap[q]? = some (.cells #[va, vb, vc] 22 (0, 0))) (ha : RdAt W W.heap.size 1 va a.length (intsV a)) (hb : RdAt W W.heap.size 1 vb b.length (intsV b)) (hc : RdAt W W.heap.size 1 vc c.length (intsV c)) : IntsRd W W.heap.size (.slice (some ⟨q, 0, none⟩) 3 3) [a, b, c] := by
  refine ⟨[va, vb, vc], rfl, ⟨_, _, rfl, fun _ => ⟨q, 0, rfl, (Array.getElem?_eq_some_iff.1 hq).1, fun j hj => ?_⟩⟩, fun j hj => ?_⟩
  · have h3 : j = 0 ∨ j = 1 ∨ j = 2 := by simp at hj; omega
    rcases h3 with rfl | rfl | rfl
    · exact block_cell hq rfl
    · exact block_cell hq rfl
    · exact block_cell hq rfl
  · have h3 : j = 0 ∨ j = 1 ∨ j = 2 := by simp at hj; omega
    rcases h3 with rfl | rfl | rfl
    · exact ha
    · exact hb
    · exact hc
theorem three_all {p : List Int → Prop} {a b c : List Int} (ha : p a) (hb : p b) (hc : p c) (h0 : p []) : ∀ j, p ([a, b, c].getD j []) := by
  intro j
  match j with
  | 0 => exact ha
  | 1 => exact hb
  | 2 => exact hc
  | j + 3 => exact h0
theorem grown_some {w w' : World} (g : Nat) (h : w.grownBy w' none) : w.grownBy w' (some g) := ⟨h.os, h.tape, h.output, h.size, fun k hk _ => h.block k hk (by simp)⟩

end Go.Proofs.Ythlmkoiilgjflaa
/- Texts of a braid: the walk of braid.Act. -/
namespace Go.Proofs.Ythlmkoiilgjflaa
open Go.RowKit

/-- The first k texts at first. -/
def acTo (n k : Nat) : List (List Int) := (List.range n).map fun (i : Nat) => if i < k then [(i : Int) + 1] else []
theorem acTo_len (n k : Nat) : (acTo n k).length = n := by simp [acTo]
theorem acTo_at (n k i : Nat) : (acTo n k).getD i [] = if i < n ∧ i < k then [(i : Int) + 1] else [] := by
  unfold acTo
  by_cases h : i < n
  · simp only [List.getD_eq_getElem?_getD, List.getElem?_map, List.getElem?_range h, Option.map_some, Option.getD_some]
    by_cases q : i < k
    · rw [if_pos q, if_pos ⟨h, q⟩]
    · rw [if_neg q, if_neg (fun r => q r.2)]
  · rw [if_neg (fun r => h r.1), List.getD_eq_getElem?_getD, List.getElem?_eq_none (by simp; omega)]; rfl
theorem acTo_next (n k : Nat) : (acTo n k).set k [(k : Int) + 1] = acTo n (k + 1) := by
  apply List.ext_getElem?
  intro j
  by_cases hj : j < n
  · have h1 : ((acTo n k).set k [(k : Int) + 1])[j]? = some (((acTo n k).set k [(k : Int) + 1]).getD j []) := by
      rw [List.getD_eq_getElem?_getD, List.getElem?_eq_getElem (by rw [List.length_set, acTo_len]; exact hj)]; rfl
    have h2 : (acTo n (k + 1))[j]? = some ((acTo n (k + 1)).getD j []) := by
      rw [List.getD_eq_getElem?_getD, List.getElem?_eq_getElem (by rw [acTo_len]; exact hj)]; rfl
    rw [h1, h2, getD_setL, acTo_at, acTo_at, acTo_len]
    by_cases e : j = k
    · subst e; rw [if_pos ⟨rfl, hj⟩, if_pos ⟨hj, by omega⟩]
    · rw [if_neg (fun q => e q.1)]
      by_cases q : j < k
      · rw [if_pos ⟨hj, q⟩, if_pos ⟨hj, by omega⟩]
      · rw [if_neg (fun r => q r.2), if_neg (fun r => by omega)]
  · rw [List.getElem?_eq_none (by rw [List.length_set, acTo_len]; omega), List.getElem?_eq_none (by rw [acTo_len]; omega)]
theorem acTo_all (n : Nat) : acTo n n = act0 n := by
  unfold acTo act0
  exact List.map_congr_left fun i hi => by rw [if_pos (List.mem_range.1 hi)]
/-- The list of texts that was just made: nothing in it. -/
theorem TxAt.made {W : World} {B g n : Nat} (h : W.ownsRow B 22 1 (.slice (some ⟨g, 0, none⟩) n n) n (List.replicate n (.slice none 0 0))) : TxAt W B g n n (acTo n 0) := by
  refine ⟨acTo_len _ _, _, h, fun j hj => ?_⟩
  rw [acTo_at, if_neg (fun q => by omega)]
  refine ⟨none, 0, ?_, fun _ => rfl, fun h0 => by simp at h0⟩
  simp [List.getD_eq_getElem?_getD, hj]
theorem made_nilsB (n : Nat) : (madeCells (Value.slice none 0 0).cells (n * 1)).toList = List.replicate n (.slice none 0 0) := by
  have e : (Value.slice none 0 0).cells = #[Value.slice none 0 0] := rfl
  rw [e, toList_madeCells_one, Nat.mul_one]
theorem infoIntsB : (Try.prog.info? 22).map (fun i => (i.zero, i.size, i.bytes)) = some (some (.slice none 0 0), 1, 24) := by kernel_rfl

end Go.Proofs.Ythlmkoiilgjflaa
