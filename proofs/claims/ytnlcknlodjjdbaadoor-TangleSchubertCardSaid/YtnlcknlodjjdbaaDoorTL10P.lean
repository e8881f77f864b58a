/- Several texts of the proof, one behind the other. -/
import Derived.Test.YtnlcknlodjjdbaaDoorTL9P
import Derived.Test.YtnlcknlodjjdbaaDoorBK4P
import Derived.Deep.Cut
import Derived.Test.YtnlcknlodjjdbaaDoorTL8P
import Derived.Test.YtnlcknlodjjdbaaDoorTG4P
/- The walk of tangle.walker.walk. -/
namespace Go.Proofs.YtnlcknlodjjdbaaDoor
open Go.RowKit Go.Maps

/-- Where the walk stands: it goes on, or it is done. -/
def GoSt (n : Nat) (U : Nat → Nat) (L0 : List Nat) (s : Nat) (L : List Nat) (x : Nat) : Prop :=
  Sp n x ∧ ((FL U L x ≠ 0 ∧ L = goS n U L0 s) ∨ (FL U L x = 0 ∧ Way n U L s x ∧ ∃ f, 4 * n + 4 < L.length + f ∧ goL U f L x = goS n U L0 s))
theorem GoSt.start {n : Nat} {U : Nat → Nat} (hU : Ties n U) {L : List Nat} {s : Nat} (h : Rest n U L) (hs : Sp n s) : GoSt n U L s L s := by
  refine ⟨hs, ?_⟩
  by_cases h0 : s ∈ L ∨ acr s ∈ L
  · refine Or.inl ⟨fun hf => ?_, by unfold goS; rw [if_pos h0]⟩
    obtain ⟨h1, h2⟩ := FL_zero.1 hf
    rcases h0 with h0 | h0
    · exact h1 h0
    · have := h.b _ h0
      unfold nxt at this
      rw [acr_acr] at this
      exact h2 this
  · have hw := h.way hs (fun e => h0 (Or.inl e)) (fun e => h0 (Or.inr e))
    refine Or.inr ⟨FL_zero.2 ⟨fun e => h0 (Or.inl e), (hw.new hU (fun e => h0 (Or.inl e))).2⟩, hw, 4 * n + 5, by omega, by unfold goS; rw [if_neg h0]⟩
theorem GoSt.step {n : Nat} {U : Nat → Nat} (hU : Ties n U) {L0 L : List Nat} {s x : Nat} (h : GoSt n U L0 s L x) (hf : FL U L x = 0) : GoSt n U L0 s (L ++ [x]) (nxt U x) := by
  rcases h.2 with ⟨h1, -⟩ | ⟨-, hw, f, hlt, e⟩
  · exact absurd hf h1
  · obtain ⟨hx, -⟩ := FL_zero.1 hf
    have hs := hw.step hU hx
    refine ⟨hs.xs, ?_⟩
    have hsh := hw.short
    obtain ⟨g, rfl⟩ : ∃ g, f = g + 1 := ⟨f - 1, by omega⟩
    unfold goL at e
    rw [if_neg hx] at e
    by_cases hm : nxt U x ∈ L ++ [x]
    · refine Or.inl ⟨fun hz => (FL_zero.1 hz).1 hm, ?_⟩
      rw [← e]
      cases g with
      | zero => rfl
      | succ g => unfold goL; rw [if_pos hm]
    · exact Or.inr ⟨FL_zero.2 ⟨hm, (hs.new hU hm).2⟩, hs, g, by simp; omega, e⟩

/-- The walker in a world. -/
structure WlkSt (gW gP b B m n : Nat) (U : Nat → Nat) (k : Int) (row : List Int) (W : World) : Prop where
  box : W.heap[gW]? = some (.cells #[.map (some b), .slice (some ⟨gP, 0, none⟩) n n, .int .i64 k] 73 (0, 0))
  row : W.ownsRow B 77 6 (.slice (some ⟨gP, 0, none⟩) n n) n (intsV row)
  map : MapT W b m (Sp n) U
theorem row_block {W : World} {B e s n g cap : Nat} {xs : List Value} (h : W.ownsRow B e s (.slice (some ⟨g, 0, none⟩) n cap) n xs) : ∃ cs, W.heap[g]? = some (.cells cs e (0, 0)) := by
  rcases h.2 with ⟨h1, _⟩ | ⟨g', cap', cur, h1, _, hg, _⟩
  · cases h1
  · injection h1 with e1
    injection e1 with e1
    injection e1 with e1
    subst e1
    exact ⟨_, hg⟩
theorem WlkSt.any {gW gP b B m n : Nat} {U : Nat → Nat} {k : Int} {row : List Int} {W W' : World} (h : WlkSt gW gP b B m n U k row W) (hg : W.grownBy W' none) : WlkSt gW gP b B m n U k row W' :=
  ⟨(hg.block gW (Array.getElem?_eq_some_iff.1 h.box).1 (by simp)).trans h.box, own_any h.row hg, h.map.kept hg (by simp)⟩
theorem WlkSt.ne {gW gP b B m n : Nat} {U : Nat → Nat} {k : Int} {row : List Int} {W : World} (h : WlkSt gW gP b B m n U k row W) : gW ≠ gP ∧ b ≠ gP ∧ b ≠ gW := by
  obtain ⟨cs, hp⟩ := row_block h.row
  obtain ⟨D, ⟨es, clock, hm, -⟩, -⟩ := h.map
  have hb := h.box
  refine ⟨fun e => ?_, fun e => ?_, fun e => ?_⟩
  · rw [e, hp] at hb
    injection hb with hb
    injection hb with h1 h2
    exact absurd h2 (by decide)
  · rw [e, hp] at hm; cases hm
  · rw [e, hb] at hm; cases hm
theorem WlkSt.setRow {gW gP b B m n : Nat} {U : Nat → Nat} {k : Int} {row row' : List Int} {W W' : World} (h : WlkSt gW gP b B m n U k row W) (hr : W'.ownsRow B 77 6 (.slice (some ⟨gP, 0, none⟩) n n) n (intsV row')) (hg : W.grownBy W' (some gP)) : WlkSt gW gP b B m n U k row' W' :=
  ⟨(hg.block gW (Array.getElem?_eq_some_iff.1 h.box).1 (fun e => h.ne.1 (Option.some.inj e))).trans h.box, hr, h.map.kept hg (fun e => h.ne.2.1 (Option.some.inj e))⟩
theorem WlkSt.setK {gW gP b B m n : Nat} {U : Nat → Nat} {k : Int} {row : List Int} {W : World} (h : WlkSt gW gP b B m n U k row W) (k' : Int) : WlkSt gW gP b B m n U k' row (W.setCell ⟨gW, 2, none⟩ (.int .i64 k')) := by
  refine ⟨by rw [set_block h.box]; rfl, h.row.kept (set_grown _ _ _ _) (Or.inr (fun e => h.ne.1 (Option.some.inj e).symm)), h.map.kept (set_grown _ _ _ _) (fun e => h.ne.2.2 (Option.some.inj e))⟩
/-- The walker, and the spot in its box. -/
structure WlkAt (gW gP b B m n : Nat) (U : Nat → Nat) (k : Int) (row : List Int) (g c s : Nat) (W : World) : Prop where
  st : WlkSt gW gP b B m n U k row W
  inn : W.heap[g]? = some (.cells #[.int .i64 (c : Nat), .int .i64 (s : Nat)] 67 (0, 0))
theorem WlkAt.ne {gW gP b B m n : Nat} {U : Nat → Nat} {k : Int} {row : List Int} {g c s : Nat} {W : World} (h : WlkAt gW gP b B m n U k row g c s W) : g ≠ gW ∧ g ≠ gP ∧ g ≠ b := by
  obtain ⟨cs, hp⟩ := row_block h.st.row
  obtain ⟨D, ⟨es, clock, hm, -⟩, -⟩ := h.st.map
  have hb := h.st.box
  have hi := h.inn
  refine ⟨fun e => ?_, fun e => ?_, fun e => ?_⟩
  · rw [e, hb] at hi
    injection hi with hi
    injection hi with h1 h2
    exact absurd h2 (by decide)
  · rw [e, hp] at hi
    injection hi with hi
    injection hi with h1 h2
    exact absurd h2 (by decide)
  · rw [e, hm] at hi; cases hi
theorem WlkAt.any {gW gP b B m n : Nat} {U : Nat → Nat} {k : Int} {row : List Int} {g c s : Nat} {W W' : World} (h : WlkAt gW gP b B m n U k row g c s W) (hg : W.grownBy W' none) : WlkAt gW gP b B m n U k row g c s W' :=
  ⟨h.st.any hg, (hg.block g (Array.getElem?_eq_some_iff.1 h.inn).1 (by simp)).trans h.inn⟩
theorem WlkAt.setRow {gW gP b B m n : Nat} {U : Nat → Nat} {k : Int} {row row' : List Int} {g c s : Nat} {W W' : World} (h : WlkAt gW gP b B m n U k row g c s W) (hr : W'.ownsRow B 77 6 (.slice (some ⟨gP, 0, none⟩) n n) n (intsV row')) (hg : W.grownBy W' (some gP)) : WlkAt gW gP b B m n U k row' g c s W' :=
  ⟨h.st.setRow hr hg, (hg.block g (Array.getElem?_eq_some_iff.1 h.inn).1 (fun e => h.ne.2.1 (Option.some.inj e))).trans h.inn⟩
theorem WlkAt.setK {gW gP b B m n : Nat} {U : Nat → Nat} {k : Int} {row : List Int} {g c s : Nat} {W : World} (h : WlkAt gW gP b B m n U k row g c s W) (k' : Int) : WlkAt gW gP b B m n U k' row g c s (W.setCell ⟨gW, 2, none⟩ (.int .i64 k')) :=
  ⟨h.st.setK k', ((set_grown W gW 2 (.int .i64 k')).block g (Array.getElem?_eq_some_iff.1 h.inn).1 (fun e => h.ne.1 (Option.some.inj e))).trans h.inn⟩
/-- All cells that the walk reads. -/
theorem WlkAt.cells {gW gP b B m n : Nat} {U : Nat → Nat} {k : Int} {row : List Int} {g c s : Nat} {W : World} (h : WlkAt gW gP b B m n U k row g c s W) :
    W.cell? ⟨g, 0, none⟩ = some (.int .i64 (c : Nat)) ∧ W.cell? ⟨g, 1, none⟩ = some (.int .i64 (s : Nat)) ∧ W.cell? ⟨gW, 0, none⟩ = some (.map (some b)) ∧ W.cell? ⟨gW, 1, none⟩ = some (.slice (some ⟨gP, 0, none⟩) n n) ∧ W.cell? ⟨gW, 2, none⟩ = some (.int .i64 k) :=
  ⟨block_cell h.inn rfl, block_cell h.inn rfl, block_cell h.st.box rfl, block_cell h.st.box rfl, block_cell h.st.box rfl⟩
theorem WlkAt.lts {gW gP b B m n : Nat} {U : Nat → Nat} {k : Int} {row : List Int} {g c s : Nat} {W : World} (h : WlkAt gW gP b B m n U k row g c s W) : g < W.heap.size ∧ gW < W.heap.size ∧ gP < W.heap.size :=
  ⟨(Array.getElem?_eq_some_iff.1 h.inn).1, (Array.getElem?_eq_some_iff.1 h.st.box).1, (h.st.row.lt gP rfl).2⟩
theorem WlkSt.rowLen {gW gP b B m n : Nat} {U : Nat → Nat} {k : Int} {row : List Int} {W : World} (h : WlkSt gW gP b B m n U k row W) : row.length = n * 6 := by
  have := h.row.1
  simpa [intsV] using this
theorem WlkSt.rowCell {gW gP b B m n : Nat} {U : Nat → Nat} {k : Int} {row : List Int} {W : World} (h : WlkSt gW gP b B m n U k row W) (j : Nat) (hj : j < n * 6) : W.cell? ⟨gP, j, none⟩ = some (.int .i64 (row.getD j 0)) := by
  rw [h.row.cellAt j hj, intsV_getG _ _ (by rw [h.rowLen]; exact hj)]
end Go.Proofs.YtnlcknlodjjdbaaDoor
/- The walk of tangle.twisted. -/
namespace Go.Proofs.YtnlcknlodjjdbaaDoor
open Go.RowKit Go.Maps

/-- At first: two arcs from west to east. -/
def tie0 : Nat → Nat := fun x => if x = 3 then 2 else if x = 2 then 3 else if x = 1 then 0 else 1
/-- One crossing more. -/
def stepT (T : Nat → Nat) (n : Nat) (right up : Bool) : Nat → Nat :=
  if right = true then leadF (leadF T 1 (cor n up 0) (cor n up 1)) 3 (cor n up 2) (cor n up 3) else leadF (leadF T 2 (cor n up 0) (cor n up 2)) 3 (cor n up 1) (cor n up 3)
/-- So many crossings more. -/
def twR (T : Nat → Nat) (n : Nat) (right up : Bool) : Nat → (Nat → Nat)
  | 0 => T
  | j + 1 => stepT (twR T n right up j) (n + j) right up
/-- Behind i numbers. -/
def twL (l : List Int) : Nat → (Nat → Nat)
  | 0 => tie0
  | i + 1 => twR (twL l i) (szTo l i) (decide (i % 2 = 0)) (decide (0 < l.getD i 0)) (l.getD i 0).natAbs
def Bd (T : Nat → Nat) (n : Nat) : Prop := ∀ x, x < 4 * n + 4 → T x < 4 * n + 4
theorem leadF_bd {T : Nat → Nat} {D : Nat → Prop} {e i o M : Nat} (h : ∀ x, D x → T x < M) (he : D e) (heM : e < M) (hi : i < M) (ho : o < M) : ∀ x, (x = i ∨ x = o ∨ D x) → leadF T e i o x < M := fun x hx => by
  unfold leadF
  unfold tieF
  split
  · exact heM
  · split
    · exact ho
    · split
      · exact h e he
      · split
        · exact hi
        · rename_i h1 h2 h3 h4
          rcases hx with hx | hx | hx
          · exact absurd hx h3
          · exact absurd hx h1
          · exact h x hx
theorem cor_lt (n : Nat) (up : Bool) (c : Nat) : cor n up c < 4 * (n + 1) + 4 := by
  have := sdOf_lt up c
  unfold cor
  omega
theorem cor_all (n : Nat) (up : Bool) (x : Nat) (h1 : 4 * n + 4 ≤ x) (h2 : x < 4 * (n + 1) + 4) : x = cor n up 0 ∨ x = cor n up 1 ∨ x = cor n up 2 ∨ x = cor n up 3 := by
  cases up <;> simp only [cor, sdOf] <;> simp <;> omega
theorem stepT_bd {T : Nat → Nat} {n : Nat} (h : Bd T n) (right up : Bool) : Bd (stepT T n right up) (n + 1) := fun x hx => by
  have c0 := cor_lt n up 0
  have c1 := cor_lt n up 1
  have c2 := cor_lt n up 2
  have c3 := cor_lt n up 3
  have hT : ∀ x, x < 4 * n + 4 → T x < 4 * (n + 1) + 4 := fun x hx => Nat.lt_of_lt_of_le (h x hx) (by omega)
  have hc : x < 4 * n + 4 ∨ x = cor n up 0 ∨ x = cor n up 1 ∨ x = cor n up 2 ∨ x = cor n up 3 := by
    rcases Nat.lt_or_ge x (4 * n + 4) with h1 | h1
    · exact Or.inl h1
    · exact Or.inr (cor_all n up x h1 hx)
  unfold stepT
  split
  · have h1 := leadF_bd (e := 1) hT (by omega) (by omega) c0 c1
    exact leadF_bd h1 (Or.inr (Or.inr (by omega))) (by omega) c2 c3 x (by omega)
  · have h1 := leadF_bd (e := 2) hT (by omega) (by omega) c0 c2
    exact leadF_bd h1 (Or.inr (Or.inr (by omega))) (by omega) c1 c3 x (by omega)
theorem twR_bd {T : Nat → Nat} {n : Nat} (h : Bd T n) (right up : Bool) (j : Nat) : Bd (twR T n right up j) (n + j) := by
  induction j with
  | zero => exact h
  | succ j ih => exact stepT_bd ih right up
theorem tie0_bd : Bd tie0 0 := fun x hx => by
  unfold tie0
  split
  · omega
  · split
    · omega
    · split <;> omega
theorem twL_bd (l : List Int) (i : Nat) : Bd (twL l i) (szTo l i) := by
  induction i with
  | zero => exact tie0_bd
  | succ i ih => exact twR_bd ih _ _ _
/-- The ends that there are. -/
def Dom (n : Nat) : Nat → Prop := fun x => x < 4 * n + 4
/-- A step's two calls. -/
theorem step_calls (b m n : Nat) (T : Nat → Nat) (right up : Bool) (hT : Bd T n) (hn : n < 16) (hm : m ≤ 700) :
    ∃ e1 i1 o1 i2 o2, e1 = (if right = true then 1 else 2) ∧ i1 = cor n up 0 ∧ o1 = cor n up (if right = true then 1 else 2) ∧ i2 = cor n up (if right = true then 2 else 1) ∧ o2 = cor n up 3 ∧
    ∃ S1 T1, (∀ W, MapT W b m (Dom n) T → Calls Tryd.prog 28 #[.map (some b), .int .i64 (e1 : Nat), spV i1, spV o1] W fun r w' => r = .returned (.tuple #[]) ∧ MapT w' b (m + 4) S1 T1 ∧ W.grownBy w' (some b)) ∧
      (∀ W, MapT W b (m + 4) S1 T1 → Calls Tryd.prog 28 #[.map (some b), .int .i64 (3 : Nat), spV i2, spV o2] W fun r w' => r = .returned (.tuple #[]) ∧ MapT w' b (m + 8) (Dom (n + 1)) (stepT T n right up) ∧ W.grownBy w' (some b)) := by
  have c0 := cor_lt n up 0
  have c1 := cor_lt n up 1
  have c2 := cor_lt n up 2
  have c3 := cor_lt n up 3
  have hTM : ∀ x, x < 4 * n + 4 → T x < 4 * (n + 1) + 4 := fun x hx => Nat.lt_of_lt_of_le (hT x hx) (by omega)
  cases right with
  | true =>
    refine ⟨1, _, _, _, _, rfl, rfl, rfl, rfl, rfl, _, _, fun W hW => lead_any b m 1 (Dom n) T _ _ W hW (by omega) (by show 1 < _; omega) (by have := hT 1 (by omega); omega) (by omega) (by show cor n up 1 < _; omega) (by omega), fun W hW => ?_⟩
    have hT3 : leadF T 1 (cor n up 0) (cor n up 1) 3 < 4 * (n + 1) + 4 := leadF_bd (e := 1) hTM (by omega) (by omega) c0 c1 3 (Or.inr (Or.inr (by omega)))
    refine (lead_any b (m + 4) 3 _ _ _ _ W hW (by omega) (Or.inr (Or.inr (Or.inr (Or.inr (show 3 < 4 * n + 4 by omega))))) (by show leadF T 1 (cor n up 0) (cor n up 1) 3 < 80; omega) (by show cor n up 2 < _; omega) (by omega) (by omega)).mono ?_
    rintro r w' ⟨h1, h2, h3⟩
    refine ⟨h1, h2.congr (by omega) (fun x hx => ⟨?_, rfl⟩), h3⟩
    have hx2 : x < 4 * (n + 1) + 4 := hx
    rcases Nat.lt_or_ge x (4 * n + 4) with h | h
    · exact Or.inr (Or.inr (Or.inr (Or.inr (Or.inr (Or.inr (Or.inr (Or.inr h)))))))
    · rcases cor_all n up x h hx2 with e | e | e | e
      · exact Or.inr (Or.inr (Or.inr (Or.inr (Or.inr (Or.inr (Or.inl e))))))
      · exact Or.inr (Or.inr (Or.inr (Or.inr (Or.inl e))))
      · exact Or.inr (Or.inr (Or.inl e))
      · exact Or.inl e
  | false =>
    refine ⟨2, _, _, _, _, rfl, rfl, rfl, rfl, rfl, _, _, fun W hW => lead_any b m 2 (Dom n) T _ _ W hW (by omega) (by show 2 < _; omega) (by have := hT 2 (by omega); omega) (by omega) (by show cor n up 2 < _; omega) (by omega), fun W hW => ?_⟩
    have hT3 : leadF T 2 (cor n up 0) (cor n up 2) 3 < 4 * (n + 1) + 4 := leadF_bd (e := 2) hTM (by omega) (by omega) c0 c2 3 (Or.inr (Or.inr (by omega)))
    refine (lead_any b (m + 4) 3 _ _ _ _ W hW (by omega) (Or.inr (Or.inr (Or.inr (Or.inr (show 3 < 4 * n + 4 by omega))))) (by show leadF T 2 (cor n up 0) (cor n up 2) 3 < 80; omega) (by show cor n up 1 < _; omega) (by omega) (by omega)).mono ?_
    rintro r w' ⟨h1, h2, h3⟩
    refine ⟨h1, h2.congr (by omega) (fun x hx => ⟨?_, rfl⟩), h3⟩
    have hx2 : x < 4 * (n + 1) + 4 := hx
    rcases Nat.lt_or_ge x (4 * n + 4) with h | h
    · exact Or.inr (Or.inr (Or.inr (Or.inr (Or.inr (Or.inr (Or.inr (Or.inr h)))))))
    · rcases cor_all n up x h hx2 with e | e | e | e
      · exact Or.inr (Or.inr (Or.inr (Or.inr (Or.inr (Or.inr (Or.inl e))))))
      · exact Or.inr (Or.inr (Or.inl e))
      · exact Or.inr (Or.inr (Or.inr (Or.inr (Or.inl e))))
      · exact Or.inl e
end Go.Proofs.YtnlcknlodjjdbaaDoor
