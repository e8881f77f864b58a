/-
  PROVED HERE: for every table of lists of terms, poly.Det of a copy of it answers the determinant in form, as the document's own function tells it along the first row (and the document's error, and nothing else, where the table may not be handed in), and the table is left as it was.
  CONDITIONS: none but the row's own reach.
-/
import Derived.Test.YtdbpiggohncjiaaPE4
import Derived.WalkKit
import Derived.ProofKit
import Derived.OpenShut
import Derived.SizedLaws
import Derived.Deep.SlicePairs
namespace Go.Proofs.Ytdbpiggohncjiaa.Poly
open Go.ChangeShapes Go.WideShapes Go.ChangeAt Go.RowKit

theorem own5 : ownKnob Try.prog.godebug = none := by kernel_rfl
theorem laidOut5 : laidOutB Try.prog = true := by kernel_rfl
theorem cells48' : Try.prog.cellsOf 111 = 2 := by kernel_rfl
theorem cells3' : Try.prog.cellsOf 3 = 1 := by kernel_rfl
theorem cells22 : Try.prog.cellsOf 24 = 1 := by kernel_rfl
theorem cells37 : Try.prog.cellsOf 23 = 1 := by kernel_rfl
theorem bytes48' : Try.prog.bytesOf 111 = 16 := by kernel_rfl
theorem bytes22 : Try.prog.bytesOf 24 = 24 := by kernel_rfl
theorem bytes37 : Try.prog.bytesOf 23 = 24 := by kernel_rfl

theorem weights_all {H : Type} {P : Program} {e : TypeId} {d : DataW H} : ∀ {l : List (DataW H)}, d ∈ l → ∀ n ∈ d.weights P e, n ∈ DataW.weightsAll P e l
  | x :: l, h, n, hn => by
    simp only [DataW.weightsAll, List.mem_append]
    rcases List.mem_cons.1 h with rfl | h
    · exact Or.inl hn
    · exact Or.inr (weights_all h n hn)

set_option maxRecDepth 100000 in
/-- A slice of terms that lies in the datum. -/
theorem poly_trod {H : Type} {enc : TypeId × Value → H} {W : World} {v : Value} {d : DataW H} {p : List MemPlace} {fuel : Nat} (hf : DataW.trod enc Try.prog W 0 (fun _ => true) true fuel 24 [v] = some (d, p)) (hw : ∀ n ∈ d.weights Try.prog 24, n ≤ reachBytes) :
    ∃ l, PolyC W W.heap.size v l ∧ l.length * 16 ≤ 140737488355328 := by
  rcases Deep.open_slice_pairs Try.underlying24 Try.underlying111 cells48' rfl rfl cells3' cells3' hf with ⟨hcs, hx⟩ | ⟨a', len', cap', m, n, V0, V1, D0, D1, P0, P1, hcs, hb, hl, hm, hmm, hx, hall⟩
  · simp only [List.cons.injEq, and_true] at hcs
    subst hcs
    exact ⟨[], ⟨Or.inl ⟨rfl, rfl⟩, none, 0, 0, rfl, Nat.le_refl _, Nat.zero_le _⟩, by simp⟩
  · simp only [List.cons.injEq, and_true] at hcs
    subst hcs
    simp only [if_true] at hmm
    subst hmm
    have hsz2 : (len' + (m - len')) * 16 ≤ reachBytes := by
      have hd := congrArg Prod.fst hx
      simp only at hd
      rw [hd] at hw
      have := hw ((len' + (m - len')) * 16) (by simp [DataW.weights, Try.underlying24, bytes48'])
      exact this
    have hlen : len' * 16 ≤ 140737488355328 := by
      have := reachBytes_lt
      omega
    have ints : ∀ i, i < m → ∃ q : Int × Int, V0 i = .int .i64 q.1 ∧ V1 i = .int .i64 q.2 := by
      intro i hi
      obtain ⟨_, _, g0, g1⟩ := hall i hi
      obtain ⟨z0, e0, _, _⟩ := DataW.trod_int Try.underlying3 g0
      obtain ⟨z1, e1, _, _⟩ := DataW.trod_int Try.underlying3 g1
      simp at e0 e1
      exact ⟨(z0, z1), e0, e1⟩
    obtain ⟨q, hq⟩ := Deep.choose_lt ints
    refine ⟨(List.range len').map q, ⟨?_, some a', len', m, rfl, hl, hm⟩, by simpa using hlen⟩
    rcases Nat.eq_zero_or_pos len' with h0 | h0
    · subst h0
      exact Or.inr (Or.inl ⟨a', m, rfl, by simp⟩)
    · have hc := (hall 0 (by omega)).1
      obtain ⟨b, off, spot⟩ := a'
      have hspot : spot = none := by simpa [Addr.add] using World.cell?_spot hc
      subst hspot
      refine Or.inr (Or.inr ⟨b, off, m, by simp, ?_, ?_⟩)
      · have hc2 : W.cell? ⟨b, off, none⟩ = some (V0 0) := by simpa [Addr.add] using hc
        rcases Nat.lt_or_ge b W.heap.size with h | h
        · exact h
        · simp [World.cell?, Array.getElem?_eq_none h] at hc2
      · intro i hi
        have hi' : i < len' := by simpa using hi
        have g : ((List.range len').map q).getD i (0, 0) = q i := by simp [List.getD, hi']
        obtain ⟨g0, g1, _, _⟩ := hall i (by omega)
        rw [g, ← (hq i (by omega)).1, ← (hq i (by omega)).2]
        rw [Addr.add_lit] at g0 g1
        exact ⟨g0, by rw [Nat.add_assoc]; exact g1⟩

/-- A slice of slices that lies in the datum. -/
theorem slots_trod {H : Type} {enc : TypeId × Value → H} {W : World} {v : Value} {d : DataW H} {p : List MemPlace} {fuel : Nat} {t e : TypeId} (ht : Try.prog.underlying t = some (.slice e)) (hc : Try.prog.cellsOf e = 1) (hby : Try.prog.bytesOf e = 24)
    (hf : DataW.trod enc Try.prog W 0 (fun _ => true) true fuel t [v] = some (d, p)) (hw : ∀ n ∈ d.weights Try.prog t, n ≤ reachBytes) :
    ∃ (xs : List Value), Slots W W.heap.size v xs ∧ (∃ a n c, v = .slice a n c ∧ n ≤ c ∧ c ≤ maxLen) ∧ xs.length * 24 ≤ 140737488355328 ∧
      ∀ i, i < xs.length → ∃ D q n, DataW.trod enc Try.prog W 0 (fun _ => true) true n e [xs.getD i (.bool false)] = some (D, q) ∧ ∀ k ∈ D.weights Try.prog e, k ≤ reachBytes := by
  rcases Deep.open_slice1 ht hc hf with ⟨hcs, hx⟩ | ⟨a, len, cap, m, n, V, D, Pl, hcs, hb, hl, hm, hmm, hx, hall⟩
  · simp only [List.cons.injEq, and_true] at hcs
    subst hcs
    exact ⟨[], ⟨none, 0, rfl, fun h => absurd h (by simp)⟩, ⟨none, 0, 0, rfl, Nat.le_refl _, Nat.zero_le _⟩, by simp, fun i hi => absurd hi (by simp)⟩
  · simp only [List.cons.injEq, and_true] at hcs
    subst hcs
    simp only [if_true] at hmm
    subst hmm
    have hd := congrArg Prod.fst hx
    simp only at hd
    rw [hd] at hw
    have hsz2 : (len + (m - len)) * 24 ≤ reachBytes := by
      have := hw ((len + (m - len)) * 24) (by simp [DataW.weights, ht, hby])
      exact this
    have hlen : len * 24 ≤ 140737488355328 := by
      have := reachBytes_lt
      omega
    have hgl : ∀ i, i < len → ((List.range len).map V).getD i (.bool false) = V i := fun i hi => by simp [List.getD, hi]
    refine ⟨(List.range len).map V, ⟨some a, m, by simp, fun h0 => ?_⟩, ⟨_, _, _, rfl, hl, hm⟩, by simpa using hlen, fun i hi => ?_⟩
    · have h0' : 0 < len := by simpa using h0
      have hc0 := (hall 0 (by omega)).1
      obtain ⟨b, off, spot⟩ := a
      have hspot : spot = none := by simpa [Addr.add] using World.cell?_spot hc0
      subst hspot
      refine ⟨b, off, rfl, ?_, fun i hi => ?_⟩
      · have hc2 : W.cell? ⟨b, off, none⟩ = some (V 0) := by simpa [Addr.add] using hc0
        rcases Nat.lt_or_ge b W.heap.size with h | h
        · exact h
        · simp [World.cell?, Array.getElem?_eq_none h] at hc2
      · have hi' : i < len := by simpa using hi
        rw [hgl i hi']
        have g0 := (hall i (by omega)).1
        rw [Addr.add_lit] at g0
        exact g0
    · have hi' : i < len := by simpa using hi
      rw [hgl i hi']
      refine ⟨D i, Pl i, n, (hall i (by omega)).2, fun k hk => hw k ?_⟩
      have hmem : D i ∈ (List.range len).map D := List.mem_map.2 ⟨i, List.mem_range.2 hi', rfl⟩
      have := weights_all (P := Try.prog) (e := e) hmem k hk
      simp only [DataW.weights, ht, List.mem_cons, List.mem_append]
      exact Or.inr (Or.inl this)

/-- A table of polynomials that came in. -/
theorem table_open {H : Type} {enc : TypeId × Value → H} {W : World} {v : Value} {d : DataW H} {p : List MemPlace} {fuel : Nat} (hf : DataW.trod enc Try.prog W 0 (fun _ => true) true fuel 22 [v] = some (d, p)) (hw : ∀ n ∈ d.weights Try.prog 22, n ≤ reachBytes) :
    ∃ T, TableC W W.heap.size v T ∧ T.length * 24 ≤ 140737488355328 ∧ (∀ i, i < T.length → (T.getD i []).length * 24 ≤ 140737488355328) ∧ (∀ i, i < T.length → ∀ j, j < (T.getD i []).length → ((T.getD i []).getD j []).length * 16 ≤ 140737488355328) := by
  obtain ⟨rs, hS, _, hL, hE⟩ := slots_trod Try.underlying22 cells37 bytes37 hf hw
  have each : ∀ i, i < rs.length → ∃ q : List Value × List (List (Int × Int)), q.1.length = q.2.length ∧ Slots W W.heap.size (rs.getD i (.bool false)) q.1 ∧ (∃ a n c, rs.getD i (.bool false) = .slice a n c ∧ n ≤ c ∧ c ≤ maxLen) ∧ q.2.length * 24 ≤ 140737488355328 ∧
      ∀ j, j < q.2.length → Poly W W.heap.size (q.1.getD j (.bool false)) (q.2.getD j []) ∧ (q.2.getD j []).length * 16 ≤ 140737488355328 := by
    intro i hi
    obtain ⟨D, q, n, hD, hDw⟩ := hE i hi
    obtain ⟨ps, hS2, hC2, hL2, hE2⟩ := slots_trod Try.underlying23 cells22 bytes22 hD hDw
    have polys : ∀ j, j < ps.length → ∃ l, PolyC W W.heap.size (ps.getD j (.bool false)) l ∧ l.length * 16 ≤ 140737488355328 := fun j hj => by
      obtain ⟨D2, q2, n2, hD2, hDw2⟩ := hE2 j hj
      exact poly_trod hD2 hDw2
    obtain ⟨ls, hls⟩ := Deep.choose_lt polys
    refine ⟨(ps, (List.range ps.length).map ls), by simp, hS2, hC2, by simpa using hL2, fun j hj => ?_⟩
    have hj' : j < ps.length := by simpa using hj
    have g : ((List.range ps.length).map ls).getD j [] = ls j := by simp [List.getD, hj']
    simp only
    rw [g]
    exact ⟨(hls j hj').1.1, (hls j hj').2⟩
  obtain ⟨f, hfs⟩ := Deep.choose_lt each
  have gT : ∀ i, i < rs.length → ((List.range rs.length).map fun i => (f i).2).getD i [] = (f i).2 := fun i hi => by simp [List.getD, hi]
  refine ⟨(List.range rs.length).map fun i => (f i).2, ⟨rs, fun i => (f i).1, by simp, hS, fun i hi => ?_⟩, by simpa using hL, fun i hi => ?_, fun i hi j hj => ?_⟩
  · have hi' : i < rs.length := by simpa using hi
    obtain ⟨h1, h2, h3, h4, h5⟩ := hfs i hi'
    rw [gT i hi']
    exact ⟨h1, h2, h3, fun j hj => (h5 j hj).1⟩
  · have hi' : i < rs.length := by simpa using hi
    rw [gT i hi']
    exact (hfs i hi').2.2.2.1
  · have hi' : i < rs.length := by simpa using hi
    rw [gT i hi'] at hj ⊢
    exact ((hfs i hi').2.2.2.2 j hj).2

set_option maxRecDepth 100000 in
theorem lifted5 (os : Os) (started : os.Started) (H : Type) (enc : TypeId × Value → H) :
    ReturnsInHanded {} Try.checked os 3 .any (Rows.polyTablesSpec.pre6 enc Try.prog Try.f3 Rows.polyTablesRow.domain false) (Rows.polyTablesSpec.post enc Try.prog Try.f3 false true false false) := by
  refine returnsInHanded_of_change_sized (C := Try.checked) own5 started (by kernel_rfl) Try.func3
    (ChangeSpec.witness6 (enc := enc) (C := Try.checked) false ⟨#[], #[.slice none 0 0], []⟩ 8 (by kernel_rfl) (by kernel_rfl) (by kernel_rfl) (by kernel_rfl)) ?_
  intro W base args ds gs before hval0 hW hcnd hsz0 _
  have hval : ∀ (j : Nat) t v, Try.f3.params[j]? = some t → args[j]? = some v → Value.okWide Try.prog W .any base t v := hval0
  have hW' := hW
  obtain ⟨p, q, hA0, hV, rfl, hfz, hnd⟩ := hW
  have hA : DataW.TrodAll enc Try.prog W 0 (fun _ => true) true Try.f3.params.toList args.toList ds p := hA0
  rw [Try.params3] at hA hval
  obtain ⟨v0, vs0, d0, ds0, p0, q0, hargs, rfl, rfl, h0, r0⟩ := trodAll_cons hA
  obtain ⟨rfl, rfl, rfl⟩ := trodAll_nil r0
  obtain rfl : args = #[v0] := by cases args; simp_all
  obtain ⟨rfl, rfl⟩ := trodVars_none hV
  have hsz : (DataW.weightsEach Try.prog [22] [d0]).all (· ≤ reachBytes) = true := by
    have h := hsz0
    rw [Try.params3] at h
    exact h
  have hw0 : ∀ n ∈ d0.weights Try.prog 22, n ≤ reachBytes := fun n hn => by
    have := List.all_eq_true.1 hsz n (DataW.weights_mem_each (ts := [22]) (ds := [d0]) (j := 0) (t := 22) rfl rfl n hn)
    simpa using this
  obtain ⟨a, len, cap, rfl⟩ := okWide_slice Try.underlying22 (hval 0 22 v0 rfl rfl)
  have k0 := h0
  obtain ⟨fuel, hf⟩ := h0
  obtain ⟨T, hT, hl, hr, hp⟩ := table_open (v := .slice a len cap) hf hw0
  have lt0 : ∀ x ∈ p0, x.block < W.heap.size := by obtain ⟨m, hm⟩ := k0; exact DataW.trod_lt m _ _ _ hm
  clear hA0 hval0
  refine (tables_any _ T W hl hr hp hT).mono fun e W' ⟨he, bel⟩ => ?_
  subst he
  exact ⟨_, rfl, _, _, _, [], _, [], hW', trodAll_mk1 (shut_bool Try.underlying4 _), (trodAll_cons_mk (Below.trod laidOut5 (by kernel_rfl) (of_decide_eq_true (by kernel_rfl)) k0 bel lt0) trodAll_mk0), rfl, bel.frame _, fun h => by cases h⟩

theorem and_two {a b : Bool} (h1 : a = true) (h2 : b = true) : (a && b) = true := by rw [h1, h2]; rfl
set_option maxHeartbeats 4000000 in
set_option maxRecDepth 100000 in
theorem polyTables_closed : joinedFacts Try.prog 3 Try.f3 Rows.polyTablesSpec Rows.polyTablesRow = true := by
  unfold joinedFacts
  iterate 31 (refine and_two ?_ ?_; rotate_left; (as_aux_lemma => kernel_rfl))
  as_aux_lemma => kernel_rfl
theorem polyTables_named : Try.prog.funcNamed Rows.polyTablesRow.func = some 3 := by kernel_rfl
theorem polyTables_wrap : Try.f3.isWrapper Try.prog Rows.polyTablesRow.wrapper Rows.polyTablesRow.mainSum := by
  unfold Func.isWrapper
  first | (rw [if_pos (by decide +kernel)]; kernel_rfl) | (rw [if_neg (by decide +kernel)]; exact ⟨rfl, rfl⟩)
/-- THE STATEMENT. -/
theorem polyTables_holds : Rows.PolyTablesSaid :=
  OpenClaim.holds_of_wide 3 Try.f3 rfl rfl rfl rfl rfl rfl rfl ⟨rfl, rfl, rfl, rfl, rfl⟩ rfl rfl rfl rfl rfl polyTables_named Try.func3 polyTables_closed
    (of_decide_eq_true (by kernel_rfl)) polyTables_wrap
    (fun os started H enc _ => lifted5 os started H enc)
#print axioms polyTables_holds
end Go.Proofs.Ytdbpiggohncjiaa.Poly
