/- Rows of polynomials that a call itself owns. -/
import Derived.Test.YthbhllomikfbhaaDoorXD12
import Derived.Test.YthbhllomikfbhaaDoorXK2
namespace Go.Proofs.YthbhllomikfbhaaDoor.Poly
open Go.RowKit Go.Maps

theorem infoPoly : (Tryd.prog.info? 22).map (fun i => (i.zero, i.size, i.bytes)) = some (some (.slice none 0 0), 1, 24) := by kernel_rfl
theorem infoRow : (Tryd.prog.info? 44).map (fun i => (i.zero, i.size, i.bytes)) = some (some (.slice none 0 0), 1, 24) := by kernel_rfl
theorem slots_of_own {w : World} {B e n : Nat} {v : Value} {xs : List Value} (h : w.ownsRow B e 1 v n xs) : Slots w w.heap.size v xs := by
  have hl : xs.length = n := by simpa using h.1
  rcases h.2 with ⟨rfl, h0⟩ | ⟨g, cap, cur, rfl, _, hg, _, _, _, _⟩
  · refine ⟨none, 0, by rw [hl, h0], fun hp => by omega⟩
  · refine ⟨some ⟨g, 0, none⟩, cap, by rw [hl], fun _ => ⟨g, 0, rfl, (h.lt g rfl).2, fun i hi => ?_⟩⟩
    rw [Nat.zero_add, h.cellAt i (by omega), List.getD, List.getElem?_eq_getElem hi]
    rfl
theorem own_low {w : World} {B B' e s n : Nat} {v : Value} {xs : List Value} (h : w.ownsRow B e s v n xs) (hB : B' ≤ B) : w.ownsRow B' e s v n xs := by
  refine ⟨h.1, ?_⟩
  rcases h.2 with h1 | ⟨g, cap, cur, h1, h2, h3⟩
  · exact Or.inl h1
  · exact Or.inr ⟨g, cap, cur, h1, Nat.le_trans hB h2, h3⟩
/-- Rows of different element types lie in different blocks. -/
theorem own_ne {w : World} {B B' e e' s s' n n' : Nat} {v v' : Value} {xs xs' : List Value} (h : w.ownsRow B e s v n xs) (h' : w.ownsRow B' e' s' v' n' xs') (he : e ≠ e') : v.ownBlock = none ∨ v.ownBlock ≠ v'.ownBlock := by
  rcases h.2 with ⟨rfl, _⟩ | ⟨g, cap, cur, rfl, _, hg, _⟩
  · exact Or.inl rfl
  · right
    rcases h'.2 with ⟨rfl, _⟩ | ⟨g', cap', cur', rfl, _, hg', _⟩
    · simp [Value.ownBlock]
    · simp only [Value.ownBlock]
      intro e0
      have e1 := Option.some.inj e0
      subst e1
      rw [hg] at hg'
      injection hg' with h1
      injection h1 with h2 h3
      exact he h3
theorem new_cell1 (W : World) (x : Value) (e : TypeId) : ∀ j u, [x][j]? = some u → (W.alloc (.cells #[x] e)).cell? ((⟨W.heap.size, 0, none⟩ : Addr).add j) = some u := by
  intro j u hj
  rw [Addr.add_lit, Nat.zero_add]
  have hh : (W.alloc (.cells #[x] e)).heap[W.heap.size]? = some (.cells #[x] e (0, 0)) := Array.getElem?_push_size
  match j, hj with
  | 0, hj => simp at hj; subst hj; unfold World.cell?; rw [hh]; rfl
theorem own_capS {w : World} {B e s n : Nat} {v : Value} {xs : List Value} (h : w.ownsRow B e s v n xs) : ∃ a c, v = .slice a n c := by
  rcases h.2 with ⟨rfl, h0⟩ | ⟨g, cap, cur, rfl, _, _, h1, h2, _⟩
  · exact ⟨none, 0, by rw [h0]⟩
  · exact ⟨_, _, rfl⟩
theorem own_oneS {w : World} {B e s n : Nat} {v : Value} {xs : List Value} (h : w.ownsRow B e s v n xs) : ∀ u ∈ [v], u.oneCell' = true := by
  obtain ⟨a, c, rfl⟩ := own_capS h
  intro u hu
  simp only [List.mem_singleton] at hu
  subst hu
  rfl
theorem own_any {w w' : World} {B e s n : Nat} {v : Value} {xs : List Value} (h : w.ownsRow B e s v n xs) (hg : w.grownBy w' none) : w'.ownsRow B e s v n xs :=
  h.kept hg (by cases v.ownBlock with | none => exact Or.inl rfl | some q => exact Or.inr (by simp))
/-- A row of polynomials that the call itself owns, all of it. -/
def RowOwn (w : World) (B : Nat) (v : Value) (R : List (List (Int × Int))) : Prop :=
  ∃ ys : List Value, ys.length = R.length ∧ w.ownsRow B 22 1 v ys.length ys ∧ ∀ j, j < R.length → w.ownsRow B 36 2 (ys.getD j (.bool false)) (R.getD j []).length (flat (R.getD j []))
theorem RowOwn.any {w w' : World} {B : Nat} {v : Value} {R : List (List (Int × Int))} (h : RowOwn w B v R) (hg : w.grownBy w' none) : RowOwn w' B v R := by
  obtain ⟨ys, h1, h2, h3⟩ := h
  exact ⟨ys, h1, own_any h2 hg, fun j hj => own_any (h3 j hj) hg⟩
theorem RowOwn.low {w : World} {B B' : Nat} {v : Value} {R : List (List (Int × Int))} (h : RowOwn w B v R) (hB : B' ≤ B) : RowOwn w B' v R := by
  obtain ⟨ys, h1, h2, h3⟩ := h
  exact ⟨ys, h1, own_low h2 hB, fun j hj => own_low (h3 j hj) hB⟩
theorem RowOwn.other {w w' : World} {B B' n : Nat} {v u : Value} {R : List (List (Int × Int))} {xs : List Value} (h : RowOwn w B v R) (ho : w.ownsRow B' 44 1 u n xs) (hg : w.grownBy w' u.ownBlock) : RowOwn w' B v R := by
  obtain ⟨ys, h1, h2, h3⟩ := h
  exact ⟨ys, h1, h2.kept hg (own_ne h2 ho (by decide)), fun j hj => (h3 j hj).kept hg (own_ne (h3 j hj) ho (by decide))⟩
theorem RowOwn.row {w : World} {B : Nat} {v : Value} {R : List (List (Int × Int))} (h : RowOwn w B v R) : Row w w.heap.size v R := by
  obtain ⟨ys, h1, h2, h3⟩ := h
  exact ⟨ys, h1, slots_of_own h2, fun j hj => Poly.ofRow (h3 j hj)⟩
theorem table_own {w : World} {B : Nat} {v : Value} {T : List (List (List (Int × Int)))} {zs : List Value} (hz : zs.length = T.length) (ho : w.ownsRow B 44 1 v zs.length zs) (hr : ∀ i, i < T.length → RowOwn w B (zs.getD i (.bool false)) (T.getD i [])) : Table w w.heap.size v T :=
  ⟨zs, hz, slots_of_own ho, fun i hi => (hr i hi).row⟩
theorem getD_left (zs : List Value) (x : Value) (i : Nat) (h : i < zs.length) : (zs ++ [x]).getD i (.bool false) = zs.getD i (.bool false) := by simp [List.getD, List.getElem?_append_left h]
theorem getD_last (zs : List Value) (x : Value) : (zs ++ [x]).getD zs.length (.bool false) = x := by simp [List.getD]
end Go.Proofs.YthbhllomikfbhaaDoor.Poly
