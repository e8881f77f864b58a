/- Rows of visits and signs that come in. -/
import Derived.Test.YtmggackacaobjaaOpen
import Derived.Test.YtmggackacaobjaaLGaussBuilds
import Derived.Deep.SlicePairs
namespace Go.Proofs.Ytmggackacaobjaa
open Go.ChangeShapes Go.WideShapes Go.ChangeAt Go.RowKit

theorem cellsVisit : Try.prog.cellsOf 99 = 2 := by kernel_rfl
theorem cellsVisits : Try.prog.cellsOf 42 = 1 := by kernel_rfl
theorem bytesVisit : Try.prog.bytesOf 99 = 16 := by kernel_rfl
theorem bytesVisits : Try.prog.bytesOf 42 = 24 := by kernel_rfl
theorem bytesBool : Try.prog.bytesOf 4 = 1 := by kernel_rfl

theorem weights_all {H : Type} {P : Program} {e : TypeId} {d : DataW H} : ∀ {l : List (DataW H)}, d ∈ l → ∀ n ∈ d.weights P e, n ∈ DataW.weightsAll P e l
  | x :: l, h, n, hn => by
    simp only [DataW.weightsAll, List.mem_append]
    rcases List.mem_cons.1 h with rfl | h
    · exact Or.inl hn
    · exact Or.inr (weights_all h n hn)

set_option maxRecDepth 100000 in
/-- A row of visits that lies in the datum. -/
theorem vis_trod {H : Type} {enc : TypeId × Value → H} {W : World} {v : Value} {d : DataW H} {p : List MemPlace} {fuel : Nat} (hf : DataW.trod enc Try.prog W 0 (fun _ => true) true fuel 42 [v] = some (d, p)) (hw : ∀ n ∈ d.weights Try.prog 42, n ≤ reachBytes) :
    ∃ V : Vi, InAt W W.heap.size 2 v V.length (viCells V) ∧ V.length * 16 ≤ 140737488355328 := by
  rcases Deep.open_slice_pairs Try.underlying42 Try.underlying99 cellsVisit rfl rfl cellsInt cellsBool hf with ⟨hcs, hx⟩ | ⟨a', len', cap', m, n, V0, V1, D0, D1, P0, P1, hcs, hb, hl, hm, hmm, hx, hall⟩
  · simp only [List.cons.injEq, and_true] at hcs
    subst hcs
    exact ⟨[], Or.inl ⟨rfl, rfl⟩, by simp⟩
  · simp only [List.cons.injEq, and_true] at hcs
    subst hcs
    simp only [if_true] at hmm
    subst hmm
    have hsz2 : (len' + (m - len')) * 16 ≤ reachBytes := by
      have hd := congrArg Prod.fst hx
      simp only at hd
      rw [hd] at hw
      have := hw ((len' + (m - len')) * 16) (by simp [DataW.weights, Try.underlying42, bytesVisit])
      exact this
    have hlen : len' * 16 ≤ 140737488355328 := by
      have := reachBytes_lt
      omega
    have pairs : ∀ i, i < m → ∃ q : Int × Bool, V0 i = .int .i64 q.1 ∧ V1 i = .bool q.2 := by
      intro i hi
      obtain ⟨_, _, g0, g1⟩ := hall i hi
      obtain ⟨z0, e0, _, _⟩ := DataW.trod_int Try.underlying3 g0
      obtain ⟨z1, e1, _⟩ := DataW.trod_bool Try.underlying4 g1
      simp at e0 e1
      exact ⟨(z0, z1), e0, e1⟩
    obtain ⟨q, hq⟩ := Deep.choose_lt pairs
    refine ⟨(List.range len').map q, ?_, by simpa using hlen⟩
    rcases Nat.eq_zero_or_pos len' with h0 | h0
    · subst h0
      exact Or.inr (Or.inl ⟨a', m, rfl, by simp⟩)
    · have hc := (hall 0 (by omega)).1
      obtain ⟨b, off, spot⟩ := a'
      have hspot : spot = none := by simpa [Addr.add] using World.cell?_spot hc
      subst hspot
      refine Or.inr (Or.inr ⟨b, off, m, by simp, ?_, ?_⟩)
      · have hc2 : W.cell? ⟨b, off, none⟩ = some (V0 0) := by simpa [Addr.add] using hc
        rcases Nat.lt_or_ge b W.heap.size with h | h
        · exact h
        · simp [World.cell?, Array.getElem?_eq_none h] at hc2
      · intro j hj
        have hj' : j < len' * 2 := by simpa using hj
        have hi' : j / 2 < len' := by omega
        have g : ((List.range len').map q).getD (j / 2) (0, false) = q (j / 2) := by simp [List.getD, hi']
        obtain ⟨k0, k1⟩ := viCells_get ((List.range len').map q) (j / 2) (by simpa using hi')
        rw [g] at k0 k1
        obtain ⟨g0, g1, _, _⟩ := hall (j / 2) (by omega)
        rw [Addr.add_lit] at g0 g1
        have hr : j % 2 = 0 ∨ j % 2 = 1 := by omega
        rcases hr with hr | hr
        · have ej : j / 2 * 2 = j := by omega
          rw [ej] at k0 g0
          rw [k0, g0, (hq (j / 2) (by omega)).1]
        · have ej : j / 2 * 2 + 1 = j := by omega
          rw [ej] at k1 g1
          rw [k1, g1, (hq (j / 2) (by omega)).2]

/-- A slice of elements of one cell that lies in the datum. -/
theorem ones_trod {H : Type} {enc : TypeId × Value → H} {W : World} {v : Value} {d : DataW H} {p : List MemPlace} {fuel : Nat} {t e : TypeId} {bytes : Nat} (ht : Try.prog.underlying t = some (.slice e)) (hc : Try.prog.cellsOf e = 1) (hby : Try.prog.bytesOf e = bytes)
    (hf : DataW.trod enc Try.prog W 0 (fun _ => true) true fuel t [v] = some (d, p)) (hw : ∀ n ∈ d.weights Try.prog t, n ≤ reachBytes) :
    ∃ (xs : List Value), InAt W W.heap.size 1 v xs.length xs ∧ xs.length * bytes ≤ 140737488355328 ∧
      ∀ i, i < xs.length → ∃ D q n, DataW.trod enc Try.prog W 0 (fun _ => true) true n e [xs.getD i (.bool false)] = some (D, q) ∧ ∀ k ∈ D.weights Try.prog e, k ≤ reachBytes := by
  rcases Deep.open_slice1 ht hc hf with ⟨hcs, hx⟩ | ⟨a, len, cap, m, n, V, D, Pl, hcs, hb, hl, hm, hmm, hx, hall⟩
  · simp only [List.cons.injEq, and_true] at hcs
    subst hcs
    exact ⟨[], Or.inl ⟨rfl, rfl⟩, by simp, fun i hi => absurd hi (by simp)⟩
  · simp only [List.cons.injEq, and_true] at hcs
    subst hcs
    simp only [if_true] at hmm
    subst hmm
    have hd := congrArg Prod.fst hx
    simp only at hd
    rw [hd] at hw
    have hsz2 : (len + (m - len)) * bytes ≤ reachBytes := by
      have := hw ((len + (m - len)) * bytes) (by simp [DataW.weights, ht, hby])
      exact this
    have hlen : len * bytes ≤ 140737488355328 := by
      have := reachBytes_lt
      have h2 : len * bytes ≤ (len + (m - len)) * bytes := Nat.mul_le_mul_right _ (by omega)
      omega
    have hgl : ∀ i, i < len → ((List.range len).map V).getD i (.bool false) = V i := fun i hi => by simp [List.getD, hi]
    refine ⟨(List.range len).map V, ?_, by simpa using hlen, fun i hi => ?_⟩
    · rcases Nat.eq_zero_or_pos len with h0 | h0
      · subst h0
        exact Or.inr (Or.inl ⟨a, m, rfl, by simp⟩)
      · have hc0 := (hall 0 (by omega)).1
        obtain ⟨b, off, spot⟩ := a
        have hspot : spot = none := by simpa [Addr.add] using World.cell?_spot hc0
        subst hspot
        refine Or.inr (Or.inr ⟨b, off, m, by simp, ?_, fun i hi => ?_⟩)
        · have hc2 : W.cell? ⟨b, off, none⟩ = some (V 0) := by simpa [Addr.add] using hc0
          rcases Nat.lt_or_ge b W.heap.size with h | h
          · exact h
          · simp [World.cell?, Array.getElem?_eq_none h] at hc2
        · have hi' : i < len := by simpa using hi
          have g0 := (hall i (by omega)).1
          rw [Addr.add_lit] at g0
          rw [g0]
          simp [hi']
    · have hi' : i < len := by simpa using hi
      rw [hgl i hi']
      refine ⟨D i, Pl i, n, (hall i (by omega)).2, fun k hk => hw k ?_⟩
      have hmem : D i ∈ (List.range len).map D := List.mem_map.2 ⟨i, List.mem_range.2 hi', rfl⟩
      have := weights_all (P := Try.prog) (e := e) hmem k hk
      simp only [DataW.weights, ht, List.mem_cons, List.mem_append]
      exact Or.inr (Or.inl this)

/-- Rows of visits that came in. -/
theorem rows_trod {H : Type} {enc : TypeId × Value → H} {W : World} {v : Value} {d : DataW H} {p : List MemPlace} {fuel : Nat} (hf : DataW.trod enc Try.prog W 0 (fun _ => true) true fuel 30 [v] = some (d, p)) (hw : ∀ n ∈ d.weights Try.prog 30, n ≤ reachBytes) :
    ∃ L : List Vi, RowsIn W W.heap.size v L ∧ L.length * 24 ≤ 140737488355328 ∧ ∀ j, j < L.length → (L.getD j []).length * 16 ≤ 140737488355328 := by
  obtain ⟨rs, hS, hL, hE⟩ := ones_trod Try.underlying30 cellsVisits bytesVisits hf hw
  have each : ∀ i, i < rs.length → ∃ V : Vi, InAt W W.heap.size 2 (rs.getD i (.bool false)) V.length (viCells V) ∧ V.length * 16 ≤ 140737488355328 := fun i hi => by
    obtain ⟨D, q, n, hD, hDw⟩ := hE i hi
    exact vis_trod hD hDw
  obtain ⟨f, hfs⟩ := Deep.choose_lt each
  have gT : ∀ i, i < rs.length → ((List.range rs.length).map f).getD i [] = f i := fun i hi => by simp [List.getD, hi]
  refine ⟨(List.range rs.length).map f, ⟨rs, by simp, by simpa using hS, fun j hj => ?_⟩, by simpa using hL, fun j hj => ?_⟩
  · have hj' : j < rs.length := by simpa using hj
    rw [gT j hj']
    exact (hfs j hj').1
  · have hj' : j < rs.length := by simpa using hj
    rw [gT j hj']
    exact (hfs j hj').2

/-- Signs that came in. -/
theorem signs_trod {H : Type} {enc : TypeId × Value → H} {W : World} {v : Value} {d : DataW H} {p : List MemPlace} {fuel : Nat} (hf : DataW.trod enc Try.prog W 0 (fun _ => true) true fuel 31 [v] = some (d, p)) (hw : ∀ n ∈ d.weights Try.prog 31, n ≤ reachBytes) :
    ∃ P : List Bool, InAt W W.heap.size 1 v P.length (bools P) ∧ P.length ≤ 140737488355328 := by
  obtain ⟨xs, hS, hL, hE⟩ := ones_trod Try.underlying31 cellsBool bytesBool hf hw
  have each : ∀ i, i < xs.length → ∃ b : Bool, xs.getD i (.bool false) = .bool b := fun i hi => by
    obtain ⟨D, q, n, hD, -⟩ := hE i hi
    obtain ⟨z1, e1, _⟩ := DataW.trod_bool Try.underlying4 hD
    simp only [List.cons.injEq, and_true] at e1
    exact ⟨z1, e1⟩
  obtain ⟨f, hfs⟩ := Deep.choose_lt each
  have ex : bools ((List.range xs.length).map f) = xs := by
    apply List.ext_getElem?
    intro j
    by_cases hj : j < xs.length
    · have h := hfs j hj
      rw [List.getD_eq_getElem?_getD, List.getElem?_eq_getElem hj, Option.getD_some] at h
      rw [List.getElem?_eq_getElem hj, h]
      simp [bools, hj]
    · rw [List.getElem?_eq_none (by simp [bools]; omega), List.getElem?_eq_none (by omega)]
  refine ⟨(List.range xs.length).map f, ?_, by simpa using hL⟩
  rw [ex]
  simpa using hS
end Go.Proofs.Ytmggackacaobjaa
