/- The walk of tangle.twisted. -/
import Derived.Test.YtphhlflcghffbaaTL5
import Derived.Test.YtphhlflcghffbaaTG1
import Derived.Deep.Cut
namespace Go.Proofs.Ytphhlflcghffbaa
open Go.RowKit Go.Maps

/-- At first: two arcs from west to east. -/
def tie0 : Nat → Nat := fun x => if x = 3 then 2 else if x = 2 then 3 else if x = 1 then 0 else 1
/-- One crossing more. -/
def stepT (T : Nat → Nat) (n : Nat) (right up : Bool) : Nat → Nat :=
  if right = true then leadF (leadF T 1 (cor n up 0) (cor n up 1)) 3 (cor n up 2) (cor n up 3) else leadF (leadF T 2 (cor n up 0) (cor n up 2)) 3 (cor n up 1) (cor n up 3)
/-- So many crossings more. -/
def twR (T : Nat → Nat) (n : Nat) (right up : Bool) : Nat → (Nat → Nat)
  | 0 => T
  | j + 1 => stepT (twR T n right up j) (n + j) right up
/-- Behind i numbers. -/
def twL (l : List Int) : Nat → (Nat → Nat)
  | 0 => tie0
  | i + 1 => twR (twL l i) (szTo l i) (decide (i % 2 = 0)) (decide (0 < l.getD i 0)) (l.getD i 0).natAbs
def Bd (T : Nat → Nat) (n : Nat) : Prop := ∀ x, x < 4 * n + 4 → T x < 4 * n + 4
theorem leadF_bd {T : Nat → Nat} {D : Nat → Prop} {e i o M : Nat} (h : ∀ x, D x → T x < M) (he : D e) (heM : e < M) (hi : i < M) (ho : o < M) : ∀ x, (x = i ∨ x = o ∨ D x) → leadF T e i o x < M := fun x hx => by
  unfold leadF
  unfold tieF
  split
  · exact heM
  · split
    · exact ho
    · split
      · exact h e he
      · split
        · exact hi
        · rename_i h1 h2 h3 h4
          rcases hx with hx | hx | hx
          · exact absurd hx h3
          · exact absurd hx h1
          · exact h x hx
theorem cor_lt (n : Nat) (up : Bool) (c : Nat) : cor n up c < 4 * (n + 1) + 4 := by
  have := sdOf_lt up c
  unfold cor
  omega
theorem cor_all (n : Nat) (up : Bool) (x : Nat) (h1 : 4 * n + 4 ≤ x) (h2 : x < 4 * (n + 1) + 4) : x = cor n up 0 ∨ x = cor n up 1 ∨ x = cor n up 2 ∨ x = cor n up 3 := by
  cases up <;> simp only [cor, sdOf] <;> simp <;> omega
theorem stepT_bd {T : Nat → Nat} {n : Nat} (h : Bd T n) (right up : Bool) : Bd (stepT T n right up) (n + 1) := fun x hx => by
  have c0 := cor_lt n up 0
  have c1 := cor_lt n up 1
  have c2 := cor_lt n up 2
  have c3 := cor_lt n up 3
  have hT : ∀ x, x < 4 * n + 4 → T x < 4 * (n + 1) + 4 := fun x hx => Nat.lt_of_lt_of_le (h x hx) (by omega)
  have hc : x < 4 * n + 4 ∨ x = cor n up 0 ∨ x = cor n up 1 ∨ x = cor n up 2 ∨ x = cor n up 3 := by
    rcases Nat.lt_or_ge x (4 * n + 4) with h1 | h1
    · exact Or.inl h1
    · exact Or.inr (cor_all n up x h1 hx)
  unfold stepT
  split
  · have h1 := leadF_bd (e := 1) hT (by omega) (by omega) c0 c1
    exact leadF_bd h1 (Or.inr (Or.inr (by omega))) (by omega) c2 c3 x (by omega)
  · have h1 := leadF_bd (e := 2) hT (by omega) (by omega) c0 c2
    exact leadF_bd h1 (Or.inr (Or.inr (by omega))) (by omega) c1 c3 x (by omega)
theorem twR_bd {T : Nat → Nat} {n : Nat} (h : Bd T n) (right up : Bool) (j : Nat) : Bd (twR T n right up j) (n + j) := by
  induction j with
  | zero => exact h
  | succ j ih => exact stepT_bd ih right up
theorem tie0_bd : Bd tie0 0 := fun x hx => by
  unfold tie0
  split
  · omega
  · split
    · omega
    · split <;> omega
theorem twL_bd (l : List Int) (i : Nat) : Bd (twL l i) (szTo l i) := by
  induction i with
  | zero => exact tie0_bd
  | succ i ih => exact twR_bd ih _ _ _
/-- The ends that there are. -/
def Dom (n : Nat) : Nat → Prop := fun x => x < 4 * n + 4
/-- A step's two calls. -/
theorem step_calls (b m n : Nat) (T : Nat → Nat) (right up : Bool) (hT : Bd T n) (hn : n < 16) (hm : m ≤ 700) :
    ∃ e1 i1 o1 i2 o2, e1 = (if right = true then 1 else 2) ∧ i1 = cor n up 0 ∧ o1 = cor n up (if right = true then 1 else 2) ∧ i2 = cor n up (if right = true then 2 else 1) ∧ o2 = cor n up 3 ∧
    ∃ S1 T1, (∀ W, MapT W b m (Dom n) T → Calls Try.prog 140 #[.map (some b), .int .i64 (e1 : Nat), spV i1, spV o1] W fun r w' => r = .returned (.tuple #[]) ∧ MapT w' b (m + 4) S1 T1 ∧ W.grownBy w' (some b)) ∧
      (∀ W, MapT W b (m + 4) S1 T1 → Calls Try.prog 140 #[.map (some b), .int .i64 (3 : Nat), spV i2, spV o2] W fun r w' => r = .returned (.tuple #[]) ∧ MapT w' b (m + 8) (Dom (n + 1)) (stepT T n right up) ∧ W.grownBy w' (some b)) := by
  have c0 := cor_lt n up 0
  have c1 := cor_lt n up 1
  have c2 := cor_lt n up 2
  have c3 := cor_lt n up 3
  have hTM : ∀ x, x < 4 * n + 4 → T x < 4 * (n + 1) + 4 := fun x hx => Nat.lt_of_lt_of_le (hT x hx) (by omega)
  cases right with
  | true =>
    refine ⟨1, _, _, _, _, rfl, rfl, rfl, rfl, rfl, _, _, fun W hW => lead_any b m 1 (Dom n) T _ _ W hW (by omega) (by show 1 < _; omega) (by have := hT 1 (by omega); omega) (by omega) (by show cor n up 1 < _; omega) (by omega), fun W hW => ?_⟩
    have hT3 : leadF T 1 (cor n up 0) (cor n up 1) 3 < 4 * (n + 1) + 4 := leadF_bd (e := 1) hTM (by omega) (by omega) c0 c1 3 (Or.inr (Or.inr (by omega)))
    refine (lead_any b (m + 4) 3 _ _ _ _ W hW (by omega) (Or.inr (Or.inr (Or.inr (Or.inr (show 3 < 4 * n + 4 by omega))))) (by show leadF T 1 (cor n up 0) (cor n up 1) 3 < 80; omega) (by show cor n up 2 < _; omega) (by omega) (by omega)).mono ?_
    rintro r w' ⟨h1, h2, h3⟩
    refine ⟨h1, h2.congr (by omega) (fun x hx => ⟨?_, rfl⟩), h3⟩
    have hx2 : x < 4 * (n + 1) + 4 := hx
    rcases Nat.lt_or_ge x (4 * n + 4) with h | h
    · exact Or.inr (Or.inr (Or.inr (Or.inr (Or.inr (Or.inr (Or.inr (Or.inr h)))))))
    · rcases cor_all n up x h hx2 with e | e | e | e
      · exact Or.inr (Or.inr (Or.inr (Or.inr (Or.inr (Or.inr (Or.inl e))))))
      · exact Or.inr (Or.inr (Or.inr (Or.inr (Or.inl e))))
      · exact Or.inr (Or.inr (Or.inl e))
      · exact Or.inl e
  | false =>
    refine ⟨2, _, _, _, _, rfl, rfl, rfl, rfl, rfl, _, _, fun W hW => lead_any b m 2 (Dom n) T _ _ W hW (by omega) (by show 2 < _; omega) (by have := hT 2 (by omega); omega) (by omega) (by show cor n up 2 < _; omega) (by omega), fun W hW => ?_⟩
    have hT3 : leadF T 2 (cor n up 0) (cor n up 2) 3 < 4 * (n + 1) + 4 := leadF_bd (e := 2) hTM (by omega) (by omega) c0 c2 3 (Or.inr (Or.inr (by omega)))
    refine (lead_any b (m + 4) 3 _ _ _ _ W hW (by omega) (Or.inr (Or.inr (Or.inr (Or.inr (show 3 < 4 * n + 4 by omega))))) (by show leadF T 2 (cor n up 0) (cor n up 2) 3 < 80; omega) (by show cor n up 1 < _; omega) (by omega) (by omega)).mono ?_
    rintro r w' ⟨h1, h2, h3⟩
    refine ⟨h1, h2.congr (by omega) (fun x hx => ⟨?_, rfl⟩), h3⟩
    have hx2 : x < 4 * (n + 1) + 4 := hx
    rcases Nat.lt_or_ge x (4 * n + 4) with h | h
    · exact Or.inr (Or.inr (Or.inr (Or.inr (Or.inr (Or.inr (Or.inr (Or.inr h)))))))
    · rcases cor_all n up x h hx2 with e | e | e | e
      · exact Or.inr (Or.inr (Or.inr (Or.inr (Or.inr (Or.inr (Or.inl e))))))
      · exact Or.inr (Or.inr (Or.inl e))
      · exact Or.inr (Or.inr (Or.inr (Or.inr (Or.inl e))))
      · exact Or.inl e
end Go.Proofs.Ytphhlflcghffbaa
