/- Pairs of spots as the reference keeps them; the walk of ref.pairing.tied. -/
import Derived.Test.YtphhlflcghffbaaTL5
import Derived.Deep.AppendLies
namespace Go.Proofs.Ytphhlflcghffbaa
open Go.RowKit Go.Maps

/-- A spot's two numbers. -/
def spP (x : Nat) : Int × Int := (((x / 4 : Nat) : Int) - 1, ((x % 4 : Nat) : Int))
theorem spV_P (x : Nat) : spV x = .agg #[.int .i64 (spP x).1, .int .i64 (spP x).2] := rfl
/-- Both lists of pairs. -/
structure PrAt (W : World) (B : Nat) (P : List (Nat × Nat)) (va vb : Value) : Prop where
  a : W.ownsRow B 120 2 va P.length (flat (P.map fun p => spP p.1))
  b : W.ownsRow B 120 2 vb P.length (flat (P.map fun p => spP p.2))
  ne : va.ownBlock = none ∨ va.ownBlock ≠ vb.ownBlock
/-- Nothing but these two rows has changed. -/
structure Gr2 (w w' : World) (r1 r2 : Option Nat) : Prop where
  os : w'.os = w.os
  tape : w'.tape = w.tape
  output : w'.output = w.output
  size : w.heap.size ≤ w'.heap.size
  block : ∀ k, k < w.heap.size → some k ≠ r1 → some k ≠ r2 → w'.heap[k]? = w.heap[k]?
theorem Gr2.of1 {w w' : World} {r1 r2 : Option Nat} (h : w.grownBy w' r1) : Gr2 w w' r1 r2 := ⟨h.os, h.tape, h.output, h.size, fun k hk h1 _ => h.block k hk h1⟩
theorem Gr2.of2 {w w' : World} {r1 r2 : Option Nat} (h : w.grownBy w' r2) : Gr2 w w' r1 r2 := ⟨h.os, h.tape, h.output, h.size, fun k hk _ h1 => h.block k hk h1⟩
theorem Gr2.trans {a b c : World} {r1 r2 : Option Nat} (h : Gr2 a b r1 r2) (k : Gr2 b c r1 r2) : Gr2 a c r1 r2 :=
  ⟨k.os.trans h.os, k.tape.trans h.tape, k.output.trans h.output, Nat.le_trans h.size k.size, fun i hi h1 h2 => (k.block i (Nat.lt_of_lt_of_le hi h.size) h1 h2).trans (h.block i hi h1 h2)⟩
theorem Gr2.mono {w w' : World} {r1 r2 q1 q2 : Option Nat} (h : Gr2 w w' r1 r2) (h1 : ∀ k, k < w.heap.size → some k ≠ q1 → some k ≠ q2 → some k ≠ r1 ∧ some k ≠ r2) : Gr2 w w' q1 q2 :=
  ⟨h.os, h.tape, h.output, h.size, fun k hk h2 h3 => h.block k hk (h1 k hk h2 h3).1 (h1 k hk h2 h3).2⟩
theorem Gr2.low {w w' : World} {r1 r2 : Option Nat} {B : Nat} (h : Gr2 w w' r1 r2) (hB : B ≤ w.heap.size) (h1 : ∀ k, r1 = some k → B ≤ k) (h2 : ∀ k, r2 = some k → B ≤ k) : Below B w w' := by
  refine ⟨h.os, h.tape, h.output, h.size, fun k hk => h.block k (by omega) (fun e => ?_) (fun e => ?_)⟩
  · have := h1 k e.symm; omega
  · have := h2 k e.symm; omega
theorem flat_snoc (l : List (Int × Int)) (p : Int × Int) : flat l ++ [.int .i64 p.1, .int .i64 p.2] = flat (l ++ [p]) := by simp [flat]
theorem two_news {W : World} {g : Nat} {p q : Int} {t : TypeId} (h : W.heap[g]? = some (.cells #[.int .i64 p, .int .i64 q] t (0, 0))) : ∀ j u, [Value.int .i64 p, .int .i64 q][j]? = some u → W.cell? ((⟨g, 0, none⟩ : Addr).add j) = some u := by
  intro j u hj
  rw [Addr.add_lit, Nat.zero_add]
  match j, hj with
  | 0, hj => simp at hj; subst hj; exact block_cell h rfl
  | 1, hj => simp at hj; subst hj; exact block_cell h rfl
theorem two_one (p q : Int) : ∀ u ∈ [Value.int .i64 p, .int .i64 q], u.oneCell' = true := by
  intro u hu
  simp only [List.mem_cons, List.not_mem_nil, or_false] at hu
  rcases hu with rfl | rfl <;> rfl
theorem infoRefSpot : (Try.prog.info? 120).map (fun i => (i.zero, i.size, i.bytes)) = some (some (.agg #[.int .i64 0, .int .i64 0]), 2, 16) := by kernel_rfl
/-- What an append of one spot does: its run, and what it leaves. -/
theorem app_spot (W : World) (B n : Nat) (v : Value) (l : List (Int × Int)) (p q : Int) (g H : Nat) (ty : TypeId) (h : W.ownsRow B 120 2 v n (flat l)) (hn : n ≤ 1000) (hg : W.heap[g]? = some (.cells #[.int .i64 p, .int .i64 q] 120 (0, 0))) (hB : B ≤ W.heap.size) (hH : W.heap.size = H) :
    ∃ g' cap w', (Builtin.append_ #[127, 127] ty #[v, .slice (some ⟨g, 0, none⟩) 1 1]).run Try.prog W = .ok (.slice (some ⟨g', 0, none⟩) (n + 1) cap) w' ∧ w'.ownsRow B 120 2 (.slice (some ⟨g', 0, none⟩) (n + 1) cap) (n + 1) (flat (l ++ [(p, q)])) ∧ W.grownBy w' v.ownBlock ∧ (v.ownBlock = some g' ∨ g' = H) := by
  obtain ⟨i2, hk, hx0, hx1, hx2⟩ := info_parts infoRefSpot
  obtain ⟨g', cap, w', h1, h2, h3, h4, -⟩ := run_append_lies (P := Try.prog) W 127 ty B 120 i2 (.agg #[.int .i64 0, .int .i64 0]) 2 16 Try.underlying127 hk hx0 hx1 hx2 rfl (by decide) v n (flat l) h ⟨g, 0, none⟩ 1 1 [.int .i64 p, .int .i64 q] rfl (two_news hg) (two_one p q) (by decide) (by unfold maxLen; omega) (by omega) hB H hH
  exact ⟨g', cap, w', h1, by rw [← flat_snoc l (p, q)]; exact h2, h3, h4⟩
end Go.Proofs.Ytphhlflcghffbaa
