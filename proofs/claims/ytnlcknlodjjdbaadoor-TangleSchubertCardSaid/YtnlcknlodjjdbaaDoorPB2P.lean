/- Several texts of the proof, one behind the other. -/
import Derived.Test.YtnlcknlodjjdbaaDoorPA10P
/- The walk of (poly.work).plus: the sum of two maps, as a new one. -/
namespace Go.Proofs.YtnlcknlodjjdbaaDoor.Poly
open Go.RowKit Go.Maps

set_option maxRecDepth 100000 in
theorem make46i (n : Int) (w : World) : (Instr.makeMap 56 (some (.int .i64 n))).run Tryd.prog w = .ok (.map (some w.heap.size)) (w.alloc (.map #[] 0)) := rfl

/-- What stands of a range: f where the key is no longer to come. -/
def part (left : Lit → Bool) (f : Int → Int) (x : Int) : Int := if left (.int .i64 x) then 0 else f x

theorem part_start (D : DataW Unit) (x : Int) : part (Maps.has D) (coefOf D) x = 0 := by
  unfold part
  split
  · rfl
  · rename_i h
    exact coefOf_none (by simpa using h)

theorem part_step (left : Lit → Bool) (f : Int → Int) (x y : Int) : part (fun z => left z && !z.sameKey (.int .i64 x)) f y = if x = y then f x else part left f y := by
  unfold part
  by_cases h : x = y
  · subst h
    have : (left (.int .i64 x) && !(Lit.int .i64 x).sameKey (.int .i64 x)) = false := (strike_int left x x).2 (Or.inr rfl)
    simp only [this]
    simp
  · rw [if_neg h]
    cases hy : left (.int .i64 y) with
    | false =>
      have : (left (.int .i64 y) && !(Lit.int .i64 y).sameKey (.int .i64 x)) = false := (strike_int left x y).2 (Or.inl hy)
      simp only [this]
    | true =>
      have : (left (.int .i64 y) && !(Lit.int .i64 y).sameKey (.int .i64 x)) = true := by
        cases hh : (left (.int .i64 y) && !(Lit.int .i64 y).sameKey (.int .i64 x)) with
        | true => rfl
        | false =>
          rcases (strike_int left x y).1 hh with h1 | h1
          · rw [hy] at h1; cases h1
          · exact absurd h1.symm h
      rw [if_pos this]
      rfl

theorem part_at {left : Lit → Bool} {f : Int → Int} {x : Int} (hl : left (.int .i64 x) = true) : part left f x = 0 := by unfold part; rw [if_pos hl]
theorem part_end {left : Lit → Bool} {f : Int → Int} (hl : ∀ kl, left kl = false) (x : Int) : part left f x = f x := by unfold part; rw [hl]; rfl

theorem map_on {w w' : World} {B b n : Nat} {D : DataW Unit} (h : w.ownsMap Tryd.prog 3 (plainElem Tryd.prog 3) b n D) (hb : Below B w w') (hlt : b < B) : w'.ownsMap Tryd.prog 3 (plainElem Tryd.prog 3) b n D := by
  obtain ⟨es, clock, hh, rest⟩ := h
  exact ⟨es, clock, (hb.block b hlt).trans hh, rest⟩

theorem has_at {D : DataW Unit} {x c : Int} (hat : ∀ zd, D.atKey (.int .i64 x) zd = .lit (.int .i64 c)) : Maps.has D (.int .i64 x) = true := has_true_of_atKey hat

end Go.Proofs.YtnlcknlodjjdbaaDoor.Poly
/- The walk of (poly.work).times: the product of two maps, as a new one. -/
namespace Go.Proofs.YtnlcknlodjjdbaaDoor.Poly
open Go.RowKit Go.Maps

/-- The coefficient of y in a list of terms times what g tells. -/
def prodL : List (Int × Int) → (Int → Int) → Int → Int
  | [], _, _ => 0
  | t :: ts, g, y => t.2 * g (y - t.1) + prodL ts g y

theorem prodL_append (a b : List (Int × Int)) (g : Int → Int) (y : Int) : prodL (a ++ b) g y = prodL a g y + prodL b g y := by
  induction a with
  | nil => simp [prodL]
  | cons t a ih => simp only [List.cons_append, prodL, ih]; omega

end Go.Proofs.YtnlcknlodjjdbaaDoor.Poly
