/- Several texts of the proof, one behind the other. -/
import Derived.Test.YtnlcknlodjjdbaaDoorBK0P
/- Plain mathematics of polynomials as lists of pairs (exponent, coefficient): which may be handed in. No program is named here. -/
namespace Go.Proofs.YtnlcknlodjjdbaaDoor.Poly

/-- Place i of the list holds a term that may stand there. -/
def okB (l : List (Int × Int)) (i : Nat) : Bool :=
  decide (-1000 ≤ (l.getD i (0, 0)).1) && decide ((l.getD i (0, 0)).1 ≤ 1000) && decide (-1000000 ≤ (l.getD i (0, 0)).2) && decide ((l.getD i (0, 0)).2 ≤ 1000000) &&
  !decide ((l.getD i (0, 0)).2 = 0) && (decide (i = 0) || decide ((l.getD (i - 1) (0, 0)).1 < (l.getD i (0, 0)).1))

/-- The polynomial may be handed in. -/
def mayB (l : List (Int × Int)) : Bool := decide (l.length ≤ 64) && (List.range l.length).all (okB l)

theorem okB_iff (l : List (Int × Int)) (i : Nat) : okB l i = true ↔ -1000 ≤ (l.getD i (0, 0)).1 ∧ (l.getD i (0, 0)).1 ≤ 1000 ∧ -1000000 ≤ (l.getD i (0, 0)).2 ∧ (l.getD i (0, 0)).2 ≤ 1000000 ∧ (l.getD i (0, 0)).2 ≠ 0 ∧ (0 < i → (l.getD (i - 1) (0, 0)).1 < (l.getD i (0, 0)).1) := by
  unfold okB
  simp only [Bool.and_eq_true, decide_eq_true_eq, Bool.or_eq_true, Bool.not_eq_true', decide_eq_false_iff_not]
  constructor
  · rintro ⟨⟨⟨⟨⟨a, b⟩, c⟩, d⟩, e⟩, f⟩
    exact ⟨a, b, c, d, e, fun h => by rcases f with f | f; omega; exact f⟩
  · rintro ⟨a, b, c, d, e, f⟩
    refine ⟨⟨⟨⟨⟨a, b⟩, c⟩, d⟩, e⟩, ?_⟩
    by_cases h : i = 0
    · exact Or.inl h
    · exact Or.inr (f (by omega))

theorem may_iff (l : List (Int × Int)) : mayB l = true ↔ l.length ≤ 64 ∧ ∀ i, i < l.length → okB l i = true := by
  unfold mayB
  simp [List.all_eq_true]

end Go.Proofs.YtnlcknlodjjdbaaDoor.Poly
/- A term put into a list in form: plain mathematics. -/
namespace Go.Proofs.YtnlcknlodjjdbaaDoor.Poly

/-- How many terms stand ahead of exponent e. -/
def ahead (l : List (Int × Int)) (e : Int) : Nat := (l.takeWhile fun t => decide (t.1 < e)).length

end Go.Proofs.YtnlcknlodjjdbaaDoor.Poly
