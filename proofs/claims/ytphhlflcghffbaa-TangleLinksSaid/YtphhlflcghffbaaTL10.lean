/- The walk of tangle.walker.walk. -/
import Derived.Test.YtphhlflcghffbaaTL9
import Derived.Test.YtphhlflcghffbaaW2
import Derived.Deep.Cut
namespace Go.Proofs.Ytphhlflcghffbaa
open Go.RowKit Go.Maps

/-- Where the walk stands: it goes on, or it is done. -/
def GoSt (n : Nat) (U : Nat → Nat) (L0 : List Nat) (s : Nat) (L : List Nat) (x : Nat) : Prop :=
  Sp n x ∧ ((FL U L x ≠ 0 ∧ L = goS n U L0 s) ∨ (FL U L x = 0 ∧ Way n U L s x ∧ ∃ f, 4 * n + 4 < L.length + f ∧ goL U f L x = goS n U L0 s))
theorem GoSt.start {n : Nat} {U : Nat → Nat} (hU : Ties n U) {L : List Nat} {s : Nat} (h : Rest n U L) (hs : Sp n s) : GoSt n U L s L s := by
  refine ⟨hs, ?_⟩
  by_cases h0 : s ∈ L ∨ acr s ∈ L
  · refine Or.inl ⟨fun hf => ?_, by unfold goS; rw [if_pos h0]⟩
    obtain ⟨h1, h2⟩ := FL_zero.1 hf
    rcases h0 with h0 | h0
    · exact h1 h0
    · have := h.b _ h0
      unfold nxt at this
      rw [acr_acr] at this
      exact h2 this
  · have hw := h.way hs (fun e => h0 (Or.inl e)) (fun e => h0 (Or.inr e))
    refine Or.inr ⟨FL_zero.2 ⟨fun e => h0 (Or.inl e), (hw.new hU (fun e => h0 (Or.inl e))).2⟩, hw, 4 * n + 5, by omega, by unfold goS; rw [if_neg h0]⟩
theorem GoSt.step {n : Nat} {U : Nat → Nat} (hU : Ties n U) {L0 L : List Nat} {s x : Nat} (h : GoSt n U L0 s L x) (hf : FL U L x = 0) : GoSt n U L0 s (L ++ [x]) (nxt U x) := by
  rcases h.2 with ⟨h1, -⟩ | ⟨-, hw, f, hlt, e⟩
  · exact absurd hf h1
  · obtain ⟨hx, -⟩ := FL_zero.1 hf
    have hs := hw.step hU hx
    refine ⟨hs.xs, ?_⟩
    have hsh := hw.short
    obtain ⟨g, rfl⟩ : ∃ g, f = g + 1 := ⟨f - 1, by omega⟩
    unfold goL at e
    rw [if_neg hx] at e
    by_cases hm : nxt U x ∈ L ++ [x]
    · refine Or.inl ⟨fun hz => (FL_zero.1 hz).1 hm, ?_⟩
      rw [← e]
      cases g with
      | zero => rfl
      | succ g => unfold goL; rw [if_pos hm]
    · exact Or.inr ⟨FL_zero.2 ⟨hm, (hs.new hU hm).2⟩, hs, g, by simp; omega, e⟩

/-- The walker in a world. -/
structure WlkSt (gW gP b B m n : Nat) (U : Nat → Nat) (k : Int) (row : List Int) (W : World) : Prop where
  box : W.heap[gW]? = some (.cells #[.map (some b), .slice (some ⟨gP, 0, none⟩) n n, .int .i64 k] 187 (0, 0))
  row : W.ownsRow B 190 6 (.slice (some ⟨gP, 0, none⟩) n n) n (intsV row)
  map : MapT W b m (Sp n) U
theorem row_block {W : World} {B e s n g cap : Nat} {xs : List Value} (h : W.ownsRow B e s (.slice (some ⟨g, 0, none⟩) n cap) n xs) : ∃ cs, W.heap[g]? = some (.cells cs e (0, 0)) := by
  rcases h.2 with ⟨h1, _⟩ | ⟨g', cap', cur, h1, _, hg, _⟩
  · cases h1
  · injection h1 with e1
    injection e1 with e1
    injection e1 with e1
    subst e1
    exact ⟨_, hg⟩
theorem WlkSt.any {gW gP b B m n : Nat} {U : Nat → Nat} {k : Int} {row : List Int} {W W' : World} (h : WlkSt gW gP b B m n U k row W) (hg : W.grownBy W' none) : WlkSt gW gP b B m n U k row W' :=
  ⟨(hg.block gW (Array.getElem?_eq_some_iff.1 h.box).1 (by simp)).trans h.box, own_any h.row hg, h.map.kept hg (by simp)⟩
theorem WlkSt.ne {gW gP b B m n : Nat} {U : Nat → Nat} {k : Int} {row : List Int} {W : World} (h : WlkSt gW gP b B m n U k row W) : gW ≠ gP ∧ b ≠ gP ∧ b ≠ gW := by
  obtain ⟨cs, hp⟩ := row_block h.row
  obtain ⟨D, ⟨es, clock, hm, -⟩, -⟩ := h.map
  have hb := h.box
  refine ⟨fun e => ?_, fun e => ?_, fun e => ?_⟩
  · rw [e, hp] at hb
    injection hb with hb
    injection hb with h1 h2
    exact absurd h2 (by decide)
  · rw [e, hp] at hm; cases hm
  · rw [e, hb] at hm; cases hm
theorem WlkSt.setRow {gW gP b B m n : Nat} {U : Nat → Nat} {k : Int} {row row' : List Int} {W W' : World} (h : WlkSt gW gP b B m n U k row W) (hr : W'.ownsRow B 190 6 (.slice (some ⟨gP, 0, none⟩) n n) n (intsV row')) (hg : W.grownBy W' (some gP)) : WlkSt gW gP b B m n U k row' W' :=
  ⟨(hg.block gW (Array.getElem?_eq_some_iff.1 h.box).1 (fun e => h.ne.1 (Option.some.inj e))).trans h.box, hr, h.map.kept hg (fun e => h.ne.2.1 (Option.some.inj e))⟩
theorem WlkSt.setK {gW gP b B m n : Nat} {U : Nat → Nat} {k : Int} {row : List Int} {W : World} (h : WlkSt gW gP b B m n U k row W) (k' : Int) : WlkSt gW gP b B m n U k' row (W.setCell ⟨gW, 2, none⟩ (.int .i64 k')) := by
  refine ⟨by rw [set_block h.box]; rfl, h.row.kept (set_grown _ _ _ _) (Or.inr (fun e => h.ne.1 (Option.some.inj e).symm)), h.map.kept (set_grown _ _ _ _) (fun e => h.ne.2.2 (Option.some.inj e))⟩
/-- The walker, and the spot in its box. -/
structure WlkAt (gW gP b B m n : Nat) (U : Nat → Nat) (k : Int) (row : List Int) (g c s : Nat) (W : World) : Prop where
  st : WlkSt gW gP b B m n U k row W
  inn : W.heap[g]? = some (.cells #[.int .i64 (c : Nat), .int .i64 (s : Nat)] 147 (0, 0))
theorem WlkAt.ne {gW gP b B m n : Nat} {U : Nat → Nat} {k : Int} {row : List Int} {g c s : Nat} {W : World} (h : WlkAt gW gP b B m n U k row g c s W) : g ≠ gW ∧ g ≠ gP ∧ g ≠ b := by
  obtain ⟨cs, hp⟩ := row_block h.st.row
  obtain ⟨D, ⟨es, clock, hm, -⟩, -⟩ := h.st.map
  have hb := h.st.box
  have hi := h.inn
  refine ⟨fun e => ?_, fun e => ?_, fun e => ?_⟩
  · rw [e, hb] at hi
    injection hi with hi
    injection hi with h1 h2
    exact absurd h2 (by decide)
  · rw [e, hp] at hi
    injection hi with hi
    injection hi with h1 h2
    exact absurd h2 (by decide)
  · rw [e, hm] at hi; cases hi
theorem WlkAt.any {gW gP b B m n : Nat} {U : Nat → Nat} {k : Int} {row : List Int} {g c s : Nat} {W W' : World} (h : WlkAt gW gP b B m n U k row g c s W) (hg : W.grownBy W' none) : WlkAt gW gP b B m n U k row g c s W' :=
  ⟨h.st.any hg, (hg.block g (Array.getElem?_eq_some_iff.1 h.inn).1 (by simp)).trans h.inn⟩
theorem WlkAt.setRow {gW gP b B m n : Nat} {U : Nat → Nat} {k : Int} {row row' : List Int} {g c s : Nat} {W W' : World} (h : WlkAt gW gP b B m n U k row g c s W) (hr : W'.ownsRow B 190 6 (.slice (some ⟨gP, 0, none⟩) n n) n (intsV row')) (hg : W.grownBy W' (some gP)) : WlkAt gW gP b B m n U k row' g c s W' :=
  ⟨h.st.setRow hr hg, (hg.block g (Array.getElem?_eq_some_iff.1 h.inn).1 (fun e => h.ne.2.1 (Option.some.inj e))).trans h.inn⟩
theorem WlkAt.setK {gW gP b B m n : Nat} {U : Nat → Nat} {k : Int} {row : List Int} {g c s : Nat} {W : World} (h : WlkAt gW gP b B m n U k row g c s W) (k' : Int) : WlkAt gW gP b B m n U k' row g c s (W.setCell ⟨gW, 2, none⟩ (.int .i64 k')) :=
  ⟨h.st.setK k', ((set_grown W gW 2 (.int .i64 k')).block g (Array.getElem?_eq_some_iff.1 h.inn).1 (fun e => h.ne.1 (Option.some.inj e))).trans h.inn⟩
/-- All cells that the walk reads. -/
theorem WlkAt.cells {gW gP b B m n : Nat} {U : Nat → Nat} {k : Int} {row : List Int} {g c s : Nat} {W : World} (h : WlkAt gW gP b B m n U k row g c s W) :
    W.cell? ⟨g, 0, none⟩ = some (.int .i64 (c : Nat)) ∧ W.cell? ⟨g, 1, none⟩ = some (.int .i64 (s : Nat)) ∧ W.cell? ⟨gW, 0, none⟩ = some (.map (some b)) ∧ W.cell? ⟨gW, 1, none⟩ = some (.slice (some ⟨gP, 0, none⟩) n n) ∧ W.cell? ⟨gW, 2, none⟩ = some (.int .i64 k) :=
  ⟨block_cell h.inn rfl, block_cell h.inn rfl, block_cell h.st.box rfl, block_cell h.st.box rfl, block_cell h.st.box rfl⟩
theorem WlkAt.lts {gW gP b B m n : Nat} {U : Nat → Nat} {k : Int} {row : List Int} {g c s : Nat} {W : World} (h : WlkAt gW gP b B m n U k row g c s W) : g < W.heap.size ∧ gW < W.heap.size ∧ gP < W.heap.size :=
  ⟨(Array.getElem?_eq_some_iff.1 h.inn).1, (Array.getElem?_eq_some_iff.1 h.st.box).1, (h.st.row.lt gP rfl).2⟩
theorem WlkSt.rowLen {gW gP b B m n : Nat} {U : Nat → Nat} {k : Int} {row : List Int} {W : World} (h : WlkSt gW gP b B m n U k row W) : row.length = n * 6 := by
  have := h.row.1
  simpa [intsV] using this
theorem WlkSt.rowCell {gW gP b B m n : Nat} {U : Nat → Nat} {k : Int} {row : List Int} {W : World} (h : WlkSt gW gP b B m n U k row W) (j : Nat) (hj : j < n * 6) : W.cell? ⟨gP, j, none⟩ = some (.int .i64 (row.getD j 0)) := by
  rw [h.row.cellAt j hj, intsV_getG _ _ (by rw [h.rowLen]; exact hj)]
end Go.Proofs.Ytphhlflcghffbaa
