/- Maps from spots to spots; the walks of tangle.ties.tie, lead and join. -/
import Derived.Test.YtphhlflcghffbaaBase
import Derived.Maps.OwnOps
import Derived.Maps.OwnSet
import Derived.DeepKeys4
namespace Go.Proofs.Ytphhlflcghffbaa
open Go.RowKit Go.Maps

/-- A spot: the tangle's own ends are 0 to 3, side s of crossing k is 4 k + 4 + s. -/
def spV (x : Nat) : Value := .agg #[.int .i64 (((x / 4 : Nat) : Int) - 1), .int .i64 ((x % 4 : Nat) : Int)]
def spD (x : Nat) : DataW Unit := .agg [.lit (.int .i64 (((x / 4 : Nat) : Int) - 1)), .lit (.int .i64 ((x % 4 : Nat) : Int))]
def spR (v : Value) : Option (DataW Unit × List MemPlace) :=
  match v with
  | .agg cs => match cs.toList with
    | [.int .i64 a, .int .i64 b] => some (.agg [.lit (.int .i64 a), .lit (.int .i64 b)], [])
    | _ => none
  | _ => none
theorem spR_mk (x : Nat) : spR (spV x) = some (spD x, []) := rfl
theorem spR_inv {v : Value} {x : Nat} {ps : List MemPlace} (h : spR v = some (spD x, ps)) : v = spV x := by
  unfold spR at h
  split at h
  · rename_i cs
    split at h
    · rename_i a b e
      simp only [Option.some.injEq, Prod.mk.injEq, spD, DataW.agg.injEq, List.cons.injEq, DataW.lit.injEq, Lit.int.injEq, and_true, true_and] at h
      obtain ⟨⟨h1, h2⟩, -⟩ := h
      have ec : cs = #[.int .i64 a, .int .i64 b] := by rw [← Array.toArray_toList (xs := cs), e]
      rw [ec, h1, h2]
      rfl
    · cases h
  · cases h
theorem spV_inj {x y : Nat} (h : spV x = spV y) : x = y := by
  unfold spV at h
  simp only [Value.agg.injEq, Array.mk.injEq, List.cons.injEq, Value.int.injEq, and_true, true_and] at h
  omega
theorem lawS : Keyed Try.prog 147 := Keyed.of_law (deep_law_laid (by kernel_rfl) (m := 5) (by decide) (by decide +kernel) (by kernel_rfl) (by kernel_rfl))
theorem keyS_all : ((List.range 80).all fun x => (keyOf Try.prog 147 (spV x)).isSome) = true := by decide +kernel
theorem keyS {x : Nat} (h : x < 80) : ∃ l, keyOf Try.prog 147 (spV x) = some l := by
  have := List.all_eq_true.1 keyS_all x (List.mem_range.2 h)
  exact Option.isSome_iff_exists.1 this
theorem zeroS (w : World) : (zeroValue 147).run Try.prog w = .ok (spV 4) w := by kernel_rfl

/-- The map holds, for each spot of S, to which it is tied. -/
def MapT (W : World) (b m : Nat) (S : Nat → Prop) (T : Nat → Nat) : Prop := ∃ D, W.ownsMap Try.prog 147 spR b m D ∧ ∀ x l, S x → keyOf Try.prog 147 (spV x) = some l → ∀ zd, D.atKey l zd = spD (T x)
theorem MapT.kept {W W' : World} {b m : Nat} {S : Nat → Prop} {T : Nat → Nat} {row : Option Nat} (h : MapT W b m S T) (hg : W.grownBy W' row) (hne : some b ≠ row) : MapT W' b m S T := by
  obtain ⟨D, h1, h2⟩ := h
  exact ⟨D, h1.kept hg hne, h2⟩
theorem MapT.lt {W : World} {b m : Nat} {S : Nat → Prop} {T : Nat → Nat} (h : MapT W b m S T) : b < W.heap.size := by
  obtain ⟨D, h1, h2⟩ := h
  exact h1.lt
theorem MapT.congr {W : World} {b m m' : Nat} {S S' : Nat → Prop} {T T' : Nat → Nat} (h : MapT W b m S T) (hm : m ≤ m') (hS : ∀ x, S' x → S x ∧ T' x = T x) : MapT W b m' S' T' := by
  obtain ⟨D, h1, h2⟩ := h
  exact ⟨D, h1.mono hm, fun x l hx hl zd => by rw [(hS x hx).2]; exact h2 x l (hS x hx).1 hl zd⟩
theorem MapT.look {W : World} {b m : Nat} {S : Nat → Prop} {T : Nat → Nat} (h : MapT W b m S T) (x : Nat) (hx : S x) (hN : x < 80) : (Instr.lookup 122 (.map (some b)) (spV x) false).run Try.prog W = .ok (spV (T x)) W := by
  obtain ⟨D, h1, h2⟩ := h
  obtain ⟨l, hl⟩ := keyS hN
  obtain ⟨v, ps, hrun, hv⟩ := h1.lookup lawS Try.underlying122 (zeroS W) (spR_mk 4) hl
  rw [h2 x l hx hl] at hv
  rw [hrun, spR_inv hv]
theorem MapT.put {W : World} {b m : Nat} {S : Nat → Prop} {T : Nat → Nat} (h : MapT W b m S T) (x y : Nat) (hx : x < 80) (hm : m ≤ 1000) :
    ∃ w', (Instr.mapUpdate 122 (.map (some b)) (spV x) (spV y)).run Try.prog W = .ok () w' ∧ MapT w' b (m + 1) (fun z => z = x ∨ S z) (fun z => if z = x then y else T z) ∧ W.grownBy w' (some b) := by
  obtain ⟨D, h1, h2⟩ := h
  obtain ⟨l, hl⟩ := keyS hx
  obtain ⟨w', hrun, hown, hg⟩ := h1.update lawS Try.underlying122 (show m < maxLen by unfold maxLen; omega) hl (spR_mk y)
  refine ⟨w', hrun, ⟨D.put l (spD y), hown, fun z lz hz hlz zd => ?_⟩, hg⟩
  show _ = spD (if z = x then y else T z)
  by_cases e : z = x
  · subst e
    rw [if_pos rfl]
    rw [hl] at hlz
    obtain rfl := Option.some.inj hlz
    exact atKey_put_same h1.isMap (lawS.key hl) _ _
  · rw [if_neg e]
    have hne : l ≠ lz := fun h0 => e (spV_inj (lawS.inj hlz (h0 ▸ hl)))
    rw [atKey_put_other (by intro h0; exact hne h0.symm)]
    rcases hz with h0 | h0
    · exact absurd h0 e
    · exact h2 z lz h0 hlz zd
end Go.Proofs.Ytphhlflcghffbaa
