/- The walk of (poly.work).terms: the terms of a map from exponents to coefficients, in form. -/
import Derived.Test.YtnlcknlodjjdbaaDoorPA8
import Derived.Test.YtnlcknlodjjdbaaDoorBK0P
import Derived.Maps.RangeWalk
import Derived.Maps.OwnOps
namespace Go.Proofs.YtnlcknlodjjdbaaDoor.Poly
open Go.RowKit Go.Maps

theorem law3 : Keyed Tryd.prog 3 := int_keyed Tryd.underlying3
set_option maxRecDepth 100000 in
theorem zero3 (w : World) : (zeroValue 3).run Tryd.prog w = .ok (.int .i64 0) w := by kernel_rfl

/-- The coefficient that a map (as it reads) has at x. -/
def coefOf (D : DataW Unit) (x : Int) : Int :=
  match D.atKey (.int .i64 x) (.lit (.int .i64 0)) with
  | .lit (.int _ c) => c
  | _ => 0

theorem coefOf_at {D : DataW Unit} {x c : Int} (h : ∀ zd, D.atKey (.int .i64 x) zd = .lit (.int .i64 c)) : coefOf D x = c := by
  unfold coefOf; rw [h]
theorem coefOf_none {D : DataW Unit} {x : Int} (h : Maps.has D (.int .i64 x) = false) : coefOf D x = 0 := by
  unfold coefOf; rw [atKey_of_not_has h]

/-- What has been collected: the entries that are no longer to come, those of coefficient 0 left out. -/
structure Coll (D : DataW Unit) (left : Lit → Bool) (acc : List (Int × Int)) : Prop where
  mem : ∀ x c, (x, c) ∈ acc ↔ (left (.int .i64 x) = false ∧ coefOf D x = c ∧ c ≠ 0)
  once : acc.Pairwise (fun a b => a.1 ≠ b.1)

theorem coll_start (D : DataW Unit) : Coll D (Maps.has D) [] :=
  ⟨fun x c => ⟨fun h => (by cases h), fun ⟨h1, h2, h3⟩ => by rw [coefOf_none h1] at h2; exact absurd h2.symm h3⟩, List.Pairwise.nil⟩

theorem strike_int (left : Lit → Bool) (x y : Int) : (left (.int .i64 y) && !(Lit.int .i64 y).sameKey (.int .i64 x)) = false ↔ left (.int .i64 y) = false ∨ y = x := by
  simp [Lit.sameKey]
  cases left (.int .i64 y) <;> simp

theorem coll_zero {D : DataW Unit} {left : Lit → Bool} {acc : List (Int × Int)} (h : Coll D left acc) {x : Int} (hat : ∀ zd, D.atKey (.int .i64 x) zd = .lit (.int .i64 0)) :
    Coll D (fun z => left z && !z.sameKey (.int .i64 x)) acc := by
  refine ⟨fun y c => ?_, h.once⟩
  rw [h.mem]
  constructor
  · rintro ⟨h1, h2, h3⟩
    exact ⟨(strike_int left x y).2 (Or.inl h1), h2, h3⟩
  · rintro ⟨h1, h2, h3⟩
    rcases (strike_int left x y).1 h1 with h1 | rfl
    · exact ⟨h1, h2, h3⟩
    · rw [coefOf_at hat] at h2; exact absurd h2.symm h3

theorem coll_more {D : DataW Unit} {left : Lit → Bool} {acc : List (Int × Int)} (h : Coll D left acc) {x c : Int} (hl : left (.int .i64 x) = true) (hc : c ≠ 0) (hat : ∀ zd, D.atKey (.int .i64 x) zd = .lit (.int .i64 c)) :
    Coll D (fun z => left z && !z.sameKey (.int .i64 x)) (acc ++ [(x, c)]) := by
  refine ⟨fun y d => ?_, ?_⟩
  · rw [List.mem_append, h.mem]
    constructor
    · rintro (⟨h1, h2, h3⟩ | h1)
      · exact ⟨(strike_int left x y).2 (Or.inl h1), h2, h3⟩
      · simp at h1
        obtain ⟨rfl, rfl⟩ := h1
        exact ⟨(strike_int left y y).2 (Or.inr rfl), coefOf_at hat, hc⟩
    · rintro ⟨h1, h2, h3⟩
      rcases (strike_int left x y).1 h1 with h1 | rfl
      · exact Or.inl ⟨h1, h2, h3⟩
      · rw [coefOf_at hat] at h2
        subst h2
        exact Or.inr (by simp)
  · rw [List.pairwise_append]
    refine ⟨h.once, List.pairwise_singleton _ _, fun a ha b hb => ?_⟩
    simp at hb
    subst hb
    intro e
    have := ((h.mem a.1 a.2).1 ha).1
    rw [e] at this
    simp only at this
    rw [hl] at this
    cases this

theorem coll_end {D : DataW Unit} {left : Lit → Bool} {acc l : List (Int × Int)} (h : Coll D left acc) (hl : ∀ kl, left kl = false) (hp : l.Perm acc) (hs : l.Pairwise (fun a b => a.1 ≤ b.1)) : Canon l (coefOf D) :=
  ⟨rising_of hp hs h.once, fun x c => by rw [hp.mem_iff, h.mem]; simp [hl]⟩

end Go.Proofs.YtnlcknlodjjdbaaDoor.Poly
