/- Tables of polynomials in a world, and the walk of poly.square. -/
import Derived.Test.YthbhllomikfbhaaDoorPD5
namespace Go.Proofs.YthbhllomikfbhaaDoor.Poly
open Go.RowKit Go.Maps

/-- The slice v holds these values, a cell each, in blocks below B. -/
def Slots (w : World) (B : Nat) (v : Value) (xs : List Value) : Prop :=
  ∃ a cap, v = .slice a xs.length cap ∧ (0 < xs.length → ∃ b off, a = some ⟨b, off, none⟩ ∧ b < B ∧ ∀ i, i < xs.length → w.cell? ⟨b, off + i, none⟩ = some (xs.getD i (.bool false)))

theorem Slots.on {w w' : World} {B : Nat} {v : Value} {xs : List Value} (h : Slots w B v xs) (hb : Below B w w') : Slots w' B v xs := by
  obtain ⟨a, cap, rfl, g⟩ := h
  refine ⟨a, cap, rfl, fun h0 => ?_⟩
  obtain ⟨b, off, rfl, hlt, hc⟩ := g h0
  exact ⟨b, off, rfl, hlt, fun i hi => bcell hb hlt (hc i hi)⟩
theorem Slots.mono {w : World} {B B' : Nat} {v : Value} {xs : List Value} (h : Slots w B v xs) (hB : B ≤ B') : Slots w B' v xs := by
  obtain ⟨a, cap, rfl, g⟩ := h
  refine ⟨a, cap, rfl, fun h0 => ?_⟩
  obtain ⟨b, off, rfl, hlt, hc⟩ := g h0
  exact ⟨b, off, rfl, Nat.lt_of_lt_of_le hlt hB, hc⟩

/-- A row of polynomials. -/
def Row (w : World) (B : Nat) (v : Value) (T : List (List (Int × Int))) : Prop :=
  ∃ ps : List Value, ps.length = T.length ∧ Slots w B v ps ∧ ∀ j, j < T.length → Poly w B (ps.getD j (.bool false)) (T.getD j [])
/-- A table of polynomials. -/
def Table (w : World) (B : Nat) (v : Value) (T : List (List (List (Int × Int)))) : Prop :=
  ∃ rs : List Value, rs.length = T.length ∧ Slots w B v rs ∧ ∀ i, i < T.length → Row w B (rs.getD i (.bool false)) (T.getD i [])

theorem Row.on {w w' : World} {B : Nat} {v : Value} {T : List (List (Int × Int))} (h : Row w B v T) (hb : Below B w w') : Row w' B v T := by
  obtain ⟨ps, h1, h2, h3⟩ := h
  exact ⟨ps, h1, h2.on hb, fun j hj => (h3 j hj).on hb⟩
theorem Row.mono {w : World} {B B' : Nat} {v : Value} {T : List (List (Int × Int))} (h : Row w B v T) (hB : B ≤ B') : Row w B' v T := by
  obtain ⟨ps, h1, h2, h3⟩ := h
  exact ⟨ps, h1, h2.mono hB, fun j hj => (h3 j hj).mono hB⟩
theorem Table.on {w w' : World} {B : Nat} {v : Value} {T : List (List (List (Int × Int)))} (h : Table w B v T) (hb : Below B w w') : Table w' B v T := by
  obtain ⟨rs, h1, h2, h3⟩ := h
  exact ⟨rs, h1, h2.on hb, fun j hj => (h3 j hj).on hb⟩
theorem Table.mono {w : World} {B B' : Nat} {v : Value} {T : List (List (List (Int × Int)))} (h : Table w B v T) (hB : B ≤ B') : Table w B' v T := by
  obtain ⟨rs, h1, h2, h3⟩ := h
  exact ⟨rs, h1, h2.mono hB, fun j hj => (h3 j hj).mono hB⟩
theorem Table.up {w w' : World} {v : Value} {T : List (List (List (Int × Int)))} (h : Table w w.heap.size v T) (hb : Below w.heap.size w w') : Table w' w'.heap.size v T := (h.on hb).mono hb.size

/-- Not too many rows, each as long as there are rows. -/
def squareB (T : List (List (List (Int × Int)))) : Bool := decide (T.length ≤ 6) && (List.range T.length).all fun i => decide ((T.getD i []).length = T.length)

theorem square_iff (T : List (List (List (Int × Int)))) : squareB T = true ↔ T.length ≤ 6 ∧ ∀ i, i < T.length → (T.getD i []).length = T.length := by
  unfold squareB
  simp [List.all_eq_true]
theorem square_no {T : List (List (List (Int × Int)))} {i : Nat} (hi : i < T.length) (h : (T.getD i []).length ≠ T.length) : squareB T = false := by
  cases hm : squareB T with
  | false => rfl
  | true => exact absurd (((square_iff T).1 hm).2 i hi) h
theorem square_long {T : List (List (List (Int × Int)))} (h : 6 < T.length) : squareB T = false := by
  cases hm : squareB T with
  | false => rfl
  | true => have := ((square_iff T).1 hm).1; omega

set_option maxHeartbeats 1000000 in
set_option maxRecDepth 100000 in
theorem square_any (v : Value) (T : List (List (List (Int × Int)))) (w : World) (hl : T.length ≤ maxLen) (hr : ∀ i, i < T.length → (T.getD i []).length ≤ maxLen) (h : Table w w.heap.size v T) :
    Calls Tryd.prog 34 #[v] w fun e w' => e = .returned (.bool (squareB T)) ∧ Below w.heap.size w w' := by
  obtain ⟨rs, hrl, ⟨a, cap, rfl, g⟩, hR⟩ := h
  have hl' : T.length ≤ 9223372036854775807 := hl
  have HR : Hid (∀ i, i < T.length → Row w w.heap.size (rs.getD i (.bool false)) (T.getD i [])) := hR
  have HL : Hid (∀ i, i < T.length → (T.getD i []).length ≤ maxLen) := hr
  rw [hrl] at g ⊢
  have HG : Hid (0 < T.length → ∃ b off, a = some ⟨b, off, none⟩ ∧ b < w.heap.size ∧ ∀ i, i < T.length → w.cell? ⟨b, off + i, none⟩ = some (rs.getD i (.bool false))) := g
  clear hR hr g hl
  by_cases h6 : 6 < T.length
  · have e := square_long h6
    rw [e]
    have hd : decide (6 < (T.length : Int)) = true := by simp; omega
    go_enter Tryd.func34, Tryd.ntmps34
    go_wp2
    go_ret
    exact ⟨rfl, Below.refl _ _⟩
  · go_enter Tryd.func34, Tryd.ntmps34
    go_wp2
    go_loopw [4, 10] (fun _ i wr => ∃ k : Nat, k ≤ T.length ∧ i = .int .i64 k ∧ Hid (∀ i, i < k → (T.getD i []).length = T.length) ∧ Below w.heap.size w wr) (fun _ i _ => T.length - (intOf i).toNat)
    case atStart => exact ⟨0, Nat.zero_le _, rfl, fun i hi => absurd hi (Nat.not_lt_zero _), Below.refl _ _⟩
    case round =>
      obtain ⟨k, hk, rfl, hA, hb⟩ := hrel
      by_cases hlt : k < T.length
      · obtain ⟨b, off, rfl, hbw, hc⟩ := HG.out (by omega)
        have c0 := bcell hb hbw (hc k hlt)
        obtain ⟨ps, hpl, ⟨a2, cap2, hv2, _⟩, _⟩ := HR.out k hlt
        rw [hv2, hpl] at c0
        have hlk : (T.getD k []).length ≤ 9223372036854775807 := HL.out k hlt
        have hbr : b < wr.heap.size := Nat.lt_of_lt_of_le hbw hb.size
        have HK : Hid ((T.getD k []).length ≠ T.length → squareB T = false) := fun h => square_no hlt h
        have HA : Hid ((T.getD k []).length = T.length → ∀ i, i < k + 1 → (T.getD i []).length = T.length) := fun h i hi => by
          by_cases e : i = k
          · rw [e]; exact h
          · exact hA.out i (by omega)
        clear hc hpl hv2 hA
        generalize (T.getD k []).length = n at c0 hlk HK HA
        by_cases hn : n = T.length
        · subst hn
          go_wp2
          go_roundw
          case rel => exact ⟨k + 1, by omega, by go_num, HA.out rfl, hb⟩
          case measure => simp only [intOf]; omega
        · have hd : ((n : Int) != (T.length : Int)) = true := by rw [bne_iff_ne]; omega
          have e := HK.out hn
          go_wp2
          go_ret
          exact ⟨ret_bool e, hb⟩
      · obtain rfl : k = T.length := by omega
        have e : squareB T = true := (square_iff T).2 ⟨by omega, hA.out⟩
        go_wp2
        go_ret
        exact ⟨ret_bool e, hb⟩
end Go.Proofs.YthbhllomikfbhaaDoor.Poly
