/- Tables whose rows have their lengths within their capacities; rows that a call itself owns. -/
import Derived.Test.YtdbpiggohncjiaaPE1
namespace Go.Proofs.Ytdbpiggohncjiaa.Poly
open Go.RowKit Go.Maps

theorem infoPoly : (Try.prog.info? 24).map (fun i => (i.zero, i.size, i.bytes)) = some (some (.slice none 0 0), 1, 24) := by kernel_rfl
theorem infoRow : (Try.prog.info? 23).map (fun i => (i.zero, i.size, i.bytes)) = some (some (.slice none 0 0), 1, 24) := by kernel_rfl

/-- A table of polynomials, the rows' lengths within their capacities. -/
def TableC (w : World) (B : Nat) (v : Value) (T : List (List (List (Int × Int)))) : Prop :=
  ∃ (rs : List Value) (pss : Nat → List Value), rs.length = T.length ∧ Slots w B v rs ∧
    ∀ i, i < T.length → (pss i).length = (T.getD i []).length ∧ Slots w B (rs.getD i (.bool false)) (pss i) ∧ (∃ a n c, rs.getD i (.bool false) = .slice a n c ∧ n ≤ c ∧ c ≤ maxLen) ∧
      ∀ j, j < (T.getD i []).length → Poly w B ((pss i).getD j (.bool false)) ((T.getD i []).getD j [])

theorem TableC.table {w : World} {B : Nat} {v : Value} {T : List (List (List (Int × Int)))} (h : TableC w B v T) : Table w B v T := by
  obtain ⟨rs, pss, h1, h2, h3⟩ := h
  exact ⟨rs, h1, h2, fun i hi => ⟨pss i, (h3 i hi).1, (h3 i hi).2.1, (h3 i hi).2.2.2⟩⟩
theorem TableC.on {w w' : World} {B : Nat} {v : Value} {T : List (List (List (Int × Int)))} (h : TableC w B v T) (hb : Below B w w') : TableC w' B v T := by
  obtain ⟨rs, pss, h1, h2, h3⟩ := h
  exact ⟨rs, pss, h1, h2.on hb, fun i hi => ⟨(h3 i hi).1, (h3 i hi).2.1.on hb, (h3 i hi).2.2.1, fun j hj => ((h3 i hi).2.2.2 j hj).on hb⟩⟩
theorem TableC.mono {w : World} {B B' : Nat} {v : Value} {T : List (List (List (Int × Int)))} (h : TableC w B v T) (hB : B ≤ B') : TableC w B' v T := by
  obtain ⟨rs, pss, h1, h2, h3⟩ := h
  exact ⟨rs, pss, h1, h2.mono hB, fun i hi => ⟨(h3 i hi).1, (h3 i hi).2.1.mono hB, (h3 i hi).2.2.1, fun j hj => ((h3 i hi).2.2.2 j hj).mono hB⟩⟩
theorem TableC.up {w w' : World} {v : Value} {T : List (List (List (Int × Int)))} (h : TableC w w.heap.size v T) (hb : Below w.heap.size w w') : TableC w' w'.heap.size v T := (h.on hb).mono hb.size

theorem slots_of_own {w : World} {B e n : Nat} {v : Value} {xs : List Value} (h : w.ownsRow B e 1 v n xs) : Slots w w.heap.size v xs := by
  have hl : xs.length = n := by simpa using h.1
  rcases h.2 with ⟨rfl, h0⟩ | ⟨g, cap, cur, rfl, _, hg, _, _, _, _⟩
  · refine ⟨none, 0, by rw [hl, h0], fun hp => by omega⟩
  · refine ⟨some ⟨g, 0, none⟩, cap, by rw [hl], fun _ => ⟨g, 0, rfl, (h.lt g rfl).2, fun i hi => ?_⟩⟩
    rw [Nat.zero_add, h.cellAt i (by omega), List.getD, List.getElem?_eq_getElem hi]
    rfl
theorem own_cap {w : World} {B e n : Nat} {v : Value} {xs : List Value} (h : w.ownsRow B e 1 v n xs) : ∃ a n c, v = .slice a n c ∧ n ≤ c ∧ c ≤ maxLen := by
  rcases h.2 with ⟨rfl, h0⟩ | ⟨g, cap, cur, rfl, _, _, h1, h2, _⟩
  · exact ⟨none, 0, 0, rfl, Nat.le_refl _, Nat.zero_le _⟩
  · exact ⟨_, _, _, rfl, h1, h2⟩
theorem own_one {w : World} {B e n : Nat} {v : Value} {xs : List Value} (h : w.ownsRow B e 1 v n xs) : ∀ u ∈ [v], u.oneCell' = true := by
  obtain ⟨a, n, c, rfl, _⟩ := own_cap h
  intro u hu
  simp only [List.mem_singleton] at hu
  subst hu
  rfl
theorem own_low {w : World} {B B' e s n : Nat} {v : Value} {xs : List Value} (h : w.ownsRow B e s v n xs) (hB : B' ≤ B) : w.ownsRow B' e s v n xs := by
  refine ⟨h.1, ?_⟩
  rcases h.2 with h1 | ⟨g, cap, cur, h1, h2, h3⟩
  · exact Or.inl h1
  · exact Or.inr ⟨g, cap, cur, h1, Nat.le_trans hB h2, h3⟩
/-- Rows of different element types lie in different blocks. -/
theorem own_ne {w : World} {B B' e e' s s' n n' : Nat} {v v' : Value} {xs xs' : List Value} (h : w.ownsRow B e s v n xs) (h' : w.ownsRow B' e' s' v' n' xs') (he : e ≠ e') : v.ownBlock = none ∨ v.ownBlock ≠ v'.ownBlock := by
  rcases h.2 with ⟨rfl, _⟩ | ⟨g, cap, cur, rfl, _, hg, _⟩
  · exact Or.inl rfl
  · right
    rcases h'.2 with ⟨rfl, _⟩ | ⟨g', cap', cur', rfl, _, hg', _⟩
    · simp [Value.ownBlock]
    · simp only [Value.ownBlock]
      intro e0
      have e1 := Option.some.inj e0
      subst e1
      rw [hg] at hg'
      injection hg' with h1
      injection h1 with h2 h3
      exact he h3
theorem new_cell1 (W : World) (x : Value) (e : TypeId) : ∀ j u, [x][j]? = some u → (W.alloc (.cells #[x] e)).cell? ((⟨W.heap.size, 0, none⟩ : Addr).add j) = some u := by
  intro j u hj
  rw [Addr.add_lit, Nat.zero_add]
  have hh : (W.alloc (.cells #[x] e)).heap[W.heap.size]? = some (.cells #[x] e (0, 0)) := Array.getElem?_push_size
  match j, hj with
  | 0, hj => simp at hj; subst hj; unfold World.cell?; rw [hh]; rfl

theorem slots_take {w : World} {b off n : Nat} {ps : List Value} (h : ∀ i, i < n → w.cell? ⟨b, off + i, none⟩ = some (ps.getD i (.bool false))) (hl : ps.length = n) (c : Nat) : ∀ j u, (ps.take c)[j]? = some u → w.cell? ((⟨b, off, none⟩ : Addr).add j) = some u := by
  intro j u hu
  rw [List.getElem?_take] at hu
  split at hu
  · have hj : j < ps.length := by
      rcases Nat.lt_or_ge j ps.length with h1 | h1
      · exact h1
      · rw [List.getElem?_eq_none h1] at hu; cases hu
    have := h j (by omega)
    rw [List.getD, hu] at this
    rw [Addr.add_lit]
    exact this
  · cases hu
theorem slots_drop {w : World} {b off n : Nat} {ps : List Value} (h : ∀ i, i < n → w.cell? ⟨b, off + i, none⟩ = some (ps.getD i (.bool false))) (hl : ps.length = n) (c : Nat) : ∀ j u, (ps.drop c)[j]? = some u → w.cell? ((⟨b, off + c, none⟩ : Addr).add j) = some u := by
  intro j u hu
  rw [List.getElem?_drop] at hu
  have hj : c + j < ps.length := by
    rcases Nat.lt_or_ge (c + j) ps.length with h1 | h1
    · exact h1
    · rw [List.getElem?_eq_none h1] at hu; cases hu
  have := h (c + j) (by omega)
  rw [List.getD, hu] at this
  rw [← Nat.add_assoc] at this
  rw [Addr.add_lit]
  exact this

theorem good_less' {T : List (List (List (Int × Int)))} {n c : Nat} (h : GoodT T (n + 1)) (hc : c < n + 1) : GoodT (lessOf T c) n := by
  cases T with
  | nil => have := h.1; simp at this
  | cons R T => exact good_less h hc
theorem part_all' {T : List (List (List (Int × Int)))} {n : Nat} (h : T.length = n + 1) (y : Int) : partOf T (n + 1) y = detOf T y := by
  cases T with
  | nil => simp at h
  | cons R T =>
    have e : T.length = n := by simpa using h
    subst e
    exact part_all R T y
theorem less_at {T : List (List (List (Int × Int)))} (c i : Nat) (hi : i + 1 < T.length) : (lessOf T c).getD i [] = (T.getD (i + 1) []).eraseIdx c := by
  cases T with
  | nil => simp at hi
  | cons R T =>
    simp only [List.length_cons] at hi
    have hi2 : i < T.length := by omega
    simp [lessOf, List.getD, hi2]
theorem part_next (T : List (List (List (Int × Int)))) (m : Nat) (y : Int) : partOf T (m + 1) y = partOf T m y + sgn m * prodL ((T.getD 0 []).getD m []) (detOf (lessOf T m)) y := rfl
theorem canon_one : Canon [((0 : Int), (1 : Int))] (detOf []) := by
  refine ⟨List.pairwise_singleton _ _, fun x c => ?_⟩
  have e : detOf [] x = oneF x := rfl
  rw [e]
  unfold oneF
  simp only [List.mem_singleton, Prod.mk.injEq]
  constructor
  · rintro ⟨rfl, rfl⟩; simp
  · rintro ⟨h1, h2⟩
    by_cases h0 : x = 0
    · rw [if_pos h0] at h1; exact ⟨h0, h1.symm⟩
    · rw [if_neg h0] at h1; exact absurd h1.symm h2
theorem canon_zero : Canon [] (fun _ => 0) := ⟨List.Pairwise.nil, fun x c => by simp; omega⟩

/-- What the loop has built is the table without the first row and the column. -/
theorem less_table {w w' : World} {T : List (List (List (Int × Int)))} {n c B : Nat} {v : Value} {zs : List Value} {pss : Nat → List Value} (hT : GoodT T (n + 1)) (hc : c < n + 1) (hz : zs.length = n) (hown : w'.ownsRow B 23 1 v zs.length zs)
    (hps : ∀ i, i < n + 1 → (pss i).length = n + 1 ∧ ∀ j, j < n + 1 → Poly w w.heap.size ((pss i).getD j (.bool false)) ((T.getD i []).getD j []))
    (hrows : ∀ i, i < zs.length → w'.ownsRow B 24 1 (zs.getD i (.bool false)) n ((pss (i + 1)).eraseIdx c)) (hb : Below w.heap.size w w') : TableC w' w'.heap.size v (lessOf T c) := by
  have hg := good_less' hT hc
  refine ⟨zs, fun i => (pss (i + 1)).eraseIdx c, by rw [hz, hg.1], slots_of_own hown, fun i hi => ?_⟩
  rw [hg.1] at hi
  have hr := hrows i (by omega)
  have hTl := hT.1
  have e := less_at (T := T) c i (by omega)
  have hle : ((T.getD (i + 1) []).eraseIdx c).length = n := by
    have := (hT.2 _ (getD_mem T (i + 1) [] (by omega))).1
    rw [List.length_eraseIdx, if_pos (by omega)]
    omega
  have hpl : ((pss (i + 1)).eraseIdx c).length = n := by simpa using hr.1
  rw [e]
  refine ⟨by rw [hpl, hle], slots_of_own hr, own_cap hr, fun j hj => ?_⟩
  rw [hle] at hj
  rw [erase_skip, erase_skip]
  have hs : skip c j < n + 1 := by unfold skip; split <;> omega
  exact (((hps (i + 1) (by omega)).2 _ hs).on hb).mono hb.size
end Go.Proofs.Ytdbpiggohncjiaa.Poly
