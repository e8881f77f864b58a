/- Moves: crossings with other arcs at some spots. -/
import Derived.Test.YtagaajlbkfkaiaaMV1
import Derived.Test.YtagaajlbkfkaiaaTL2
import Derived.Test.YtagaajlbkfkaiaaW2P
import Derived.Deep.Cut
namespace Go.Proofs.Ytagaajlbkfkaiaa
open Go.RowKit Go.Maps

theorem zeroI (w : World) : (zeroValue 3).run Try.prog w = .ok (.int .i64 0) w := by kernel_rfl
/-- A map from spots to numbers. -/
def MapS (W : World) (b m : Nat) (F : Nat → Option Int) : Prop := ∃ D : DataW Unit, W.ownsMap Try.prog 120 (plainElem Try.prog 3) b m D ∧ ∀ x l, x < 80 → keyOf Try.prog 120 (spV x) = some l → has D l = (F x).isSome ∧ ∀ y, F x = some y → ∀ zd, D.atKey l zd = .lit (.int .i64 y)
theorem MapS.kept {W W' : World} {b m : Nat} {F : Nat → Option Int} {row : Option Nat} (h : MapS W b m F) (hg : W.grownBy W' row) (hne : some b ≠ row) : MapS W' b m F := by
  obtain ⟨D, h1, h2⟩ := h
  exact ⟨D, h1.kept hg hne, h2⟩
theorem MapS.lt {W : World} {b m : Nat} {F : Nat → Option Int} (h : MapS W b m F) : b < W.heap.size := by
  obtain ⟨D, h1, h2⟩ := h
  exact h1.lt
theorem MapS.made (W : World) : MapS (W.alloc (.map #[] 0)) W.heap.size 0 (fun _ => none) :=
  ⟨_, World.ownsMap_made W _ _ _, fun x l _ _ => ⟨rfl, fun y e => by cases e⟩⟩
theorem MapS.look {W : World} {b m : Nat} {F : Nat → Option Int} (h : MapS W b m F) (x : Nat) (hN : x < 80) : (Instr.lookup 151 (.map (some b)) (spV x) true).run Try.prog W = .ok (.tuple #[.int .i64 ((F x).getD 0), .bool (F x).isSome]) W := by
  obtain ⟨D, h1, h2⟩ := h
  obtain ⟨l, hl⟩ := keyS hN
  obtain ⟨v, ps, hrun, hv⟩ := h1.look_ok lawS Try.underlying151 (zeroI W) (plainElem_int Try.underlying3 (by decide)) hl
  obtain ⟨c, rfl, hc, -⟩ := plainElem_int_inv Try.underlying3 hv
  obtain ⟨g1, g2⟩ := h2 x l hN hl
  rw [hrun, g1]
  have hc := congrArg Prod.fst hc
  cases hF : F x with
  | none =>
    rw [hF] at g1
    rw [atKey_of_not_has g1] at hc
    have e : c = 0 := by simp only [DataW.lit.injEq, Lit.int.injEq, true_and] at hc; exact hc.symm
    rw [e]
    rfl
  | some y =>
    rw [g2 y hF] at hc
    have e : c = y := by simp only [DataW.lit.injEq, Lit.int.injEq, true_and] at hc; exact hc.symm
    rw [e]
    rfl
theorem MapS.put {W : World} {b m : Nat} {F : Nat → Option Int} (h : MapS W b m F) (x : Nat) (y : Int) (hx : x < 80) (hm : m ≤ 1000) (hy : -1000 ≤ y ∧ y ≤ 1000) :
    ∃ w', (Instr.mapUpdate 151 (.map (some b)) (spV x) (.int .i64 y)).run Try.prog W = .ok () w' ∧ MapS w' b (m + 1) (fun z => if z = x then some y else F z) ∧ W.grownBy w' (some b) := by
  obtain ⟨D, h1, h2⟩ := h
  obtain ⟨l, hl⟩ := keyS hx
  have hp : plainElem Try.prog 3 (.int .i64 y) = some ((.lit (.int .i64 y) : DataW Unit), []) := plainElem_int Try.underlying3 (WalkArith.wf_i64 ⟨by omega, by omega⟩)
  obtain ⟨w', hrun, hown, hg⟩ := h1.update lawS Try.underlying151 (show m < maxLen by unfold maxLen; omega) hl hp
  refine ⟨w', hrun, ⟨D.put l (.lit (.int .i64 y)), hown, fun z lz hz hlz => ?_⟩, hg⟩
  by_cases e : z = x
  · subst e
    rw [hl] at hlz
    obtain rfl := Option.some.inj hlz
    have hb : (fun v => if v = z then some y else F v) z = some y := if_pos rfl
    rw [hb]
    exact ⟨has_put_same h1.isMap (lawS.key hl) _, fun y' e zd => by cases e; exact atKey_put_same h1.isMap (lawS.key hl) _ _⟩
  · have hne : lz ≠ l := fun h0 => e (spV_inj (lawS.inj hlz (h0 ▸ hl)))
    have hb : (fun v => if v = x then some y else F v) z = F z := if_neg e
    rw [hb, has_put_other hne]
    refine ⟨(h2 z lz hz hlz).1, fun y' e' zd => ?_⟩
    rw [atKey_put_other hne]
    exact (h2 z lz hz hlz).2 y' e' zd
/-- The boxes that the closure of relaid reads: the map's, and the crossing's number. -/
structure SpAt (W : World) (gM gK q b m : Nat) (F : Nat → Option Int) : Prop where
  bm : W.heap[gM]? = some (.cells #[.map (some b)] 151 (0, 0))
  bk : W.heap[gK]? = some (.cells #[.int .i64 (q : Nat)] 3 (0, 0))
  mp : MapS W b m F
theorem SpAt.on {W W' : World} {gM gK q b m : Nat} {F : Nat → Option Int} (h : SpAt W gM gK q b m F) (hb : Below W.heap.size W W') : SpAt W' gM gK q b m F :=
  ⟨(hb.block _ (Array.getElem?_eq_some_iff.1 h.bm).1).trans h.bm, (hb.block _ (Array.getElem?_eq_some_iff.1 h.bk).1).trans h.bk, h.mp.kept (grown_below hb none) (by simp)⟩

end Go.Proofs.Ytagaajlbkfkaiaa
