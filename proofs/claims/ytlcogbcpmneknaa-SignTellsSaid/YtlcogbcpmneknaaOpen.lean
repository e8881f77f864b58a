/- Diagrams that come in: what an argument's datum says of the crossings in memory. -/
import Derived.Test.YtlcogbcpmneknaaW3P
import Derived.ProofKit
import Derived.OpenShut
import Derived.SizedLaws
import Derived.Deep.Slices
namespace Go.Proofs.Ytlcogbcpmneknaa
open Go.ChangeShapes Go.WideShapes Go.ChangeAt Go.RowKit

theorem own0 : ownKnob Try.prog.godebug = none := by kernel_rfl
theorem laidOut0 : laidOutB Try.prog = true := by kernel_rfl
theorem cellsCross : Try.prog.cellsOf 58 = 5 := by kernel_rfl
theorem cellsInt : Try.prog.cellsOf 3 = 1 := by kernel_rfl
theorem cellsBool : Try.prog.cellsOf 4 = 1 := by kernel_rfl
theorem cellsCrossL : Try.prog.cellsOf 22 = 1 := by kernel_rfl
theorem cellsDiagram : Try.prog.cellsOf 24 = 2 := by kernel_rfl
theorem bytesCross : Try.prog.bytesOf 58 = 40 := by kernel_rfl

theorem wf_i64 {z : Int} (h : (Lit.int .i64 z).wf = true) : -9223372036854775808 ≤ z ∧ z ≤ 9223372036854775807 := by
  have hr : (decide (IntKind.i64.min ≤ z) && decide (z ≤ IntKind.i64.max)) = true := h
  rw [Bool.and_eq_true, decide_eq_true_eq, decide_eq_true_eq] at hr
  exact hr

set_option maxRecDepth 100000 in
/-- A crossing in its five cells. -/
theorem cross_trodC {H : Type} {enc : TypeId × Value → H} {W : World} {cs : List Value} {x : DataW H × List MemPlace} {n : Nat} (h : DataW.trod enc Try.prog W 0 (fun _ => true) true n 58 cs = some x) :
    ∃ c : Cr, cs = [.int .i64 c.a, .int .i64 c.b, .int .i64 c.c, .int .i64 c.d, .bool c.plus] := by
  obtain ⟨xs, k, hk, hxy, hlen, hxl, hf⟩ := DataW.trod_struct Try.underlying58 h
  rw [cellsCross] at hlen
  match cs, hlen, xs, hxl with
  | [v0, v1, v2, v3, v4], _, [y0, y1, y2, y3, y4], _ =>
    have g0 := hf 0 _ rfl
    have g1 := hf 1 _ rfl
    have g2 := hf 2 _ rfl
    have g3 := hf 3 _ rfl
    have g4 := hf 4 _ rfl
    simp [cellsInt, cellsBool] at g0 g1 g2 g3 g4
    obtain ⟨z0, e0, -, -⟩ := DataW.trod_int Try.underlying3 g0
    obtain ⟨z1, e1, -, -⟩ := DataW.trod_int Try.underlying3 g1
    obtain ⟨z2, e2, -, -⟩ := DataW.trod_int Try.underlying3 g2
    obtain ⟨z3, e3, -, -⟩ := DataW.trod_int Try.underlying3 g3
    obtain ⟨z4, e4, -⟩ := DataW.trod_bool Try.underlying4 g4
    simp only [List.cons.injEq, and_true] at e0 e1 e2 e3 e4
    exact ⟨⟨z0, z1, z2, z3, z4⟩, by rw [e0, e1, e2, e3, e4]⟩

set_option maxRecDepth 100000 in
/-- A slice of crossings that lies in the datum. -/
theorem cross_trod {H : Type} {enc : TypeId × Value → H} {W : World} {v : Value} {d : DataW H} {p : List MemPlace} {fuel : Nat} (hf : DataW.trod enc Try.prog W 0 (fun _ => true) true fuel 22 [v] = some (d, p)) (hw : ∀ n ∈ d.weights Try.prog 22, n ≤ reachBytes) :
    ∃ C : List Cr, CrsW W W.heap.size v C ∧ C.length * 40 ≤ 140737488355328 := by
  rcases Deep.open_slice Try.underlying22 hf with ⟨hcs, hx⟩ | ⟨a, len, cap, m, n, D, Pl, hcs, hb, hl, hm, hmm, hx, hall⟩
  · simp only [List.cons.injEq, and_true] at hcs
    subst hcs
    exact ⟨[], Or.inl ⟨rfl, rfl⟩, by simp⟩
  · simp only [List.cons.injEq, and_true] at hcs
    subst hcs
    simp only [if_true] at hmm
    subst hmm
    have hd := congrArg Prod.fst hx
    simp only at hd
    rw [hd] at hw
    have hsz2 : (len + (m - len)) * 40 ≤ reachBytes := by
      have := hw ((len + (m - len)) * 40) (by simp [DataW.weights, Try.underlying22, bytesCross])
      exact this
    have hlen : len * 40 ≤ 140737488355328 := by
      have := reachBytes_lt
      omega
    rw [cellsCross] at hall
    have each : ∀ i, i < m → ∃ c : Cr, W.cells? 0 (a.add (i * 5)) 5 = some [.int .i64 c.a, .int .i64 c.b, .int .i64 c.c, .int .i64 c.d, .bool c.plus] := by
      intro i hi
      obtain ⟨cs', h1, h2⟩ := hall i hi
      obtain ⟨c, rfl⟩ := cross_trodC h2
      exact ⟨c, h1⟩
    haveI : Inhabited Cr := ⟨Cr.none⟩
    obtain ⟨q, hq⟩ := Deep.choose_lt each
    refine ⟨(List.range len).map q, ?_, by simpa using hlen⟩
    rcases Nat.eq_zero_or_pos len with h0 | h0
    · subst h0
      exact Or.inr (Or.inl ⟨a, m, rfl, by simp⟩)
    · have cell : ∀ i, i < m → ∀ j, j < 5 → W.cell? (a.add (i * 5 + j)) = [Value.int .i64 (q i).a, .int .i64 (q i).b, .int .i64 (q i).c, .int .i64 (q i).d, .bool (q i).plus][j]? := by
        intro i hi j hj
        obtain ⟨_, _, hcell⟩ := World.cells?_some (hq i hi)
        have e := hcell j hj
        rw [Deep.add_add] at e
        exact e
      have hc := cell 0 (by omega) 0 (by omega)
      obtain ⟨b, off, spot⟩ := a
      have hspot : spot = none := by simpa [Addr.add] using World.cell?_spot hc
      subst hspot
      refine Or.inr (Or.inr ⟨b, off, m, by simp, ?_, ?_⟩)
      · have hc2 : W.cell? ⟨b, off, none⟩ = some (.int .i64 (q 0).a) := by simpa [Addr.add] using hc
        rcases Nat.lt_or_ge b W.heap.size with h | h
        · exact h
        · simp [World.cell?, Array.getElem?_eq_none h] at hc2
      · intro i hi
        have hi' : i < len := by simpa using hi
        have g : ((List.range len).map q).getD i Cr.none = q i := by simp [List.getD, hi']
        rw [g]
        have k0 := cell i (by omega) 0 (by omega)
        have k1 := cell i (by omega) 1 (by omega)
        have k2 := cell i (by omega) 2 (by omega)
        have k3 := cell i (by omega) 3 (by omega)
        have k4 := cell i (by omega) 4 (by omega)
        rw [Addr.add_lit] at k0 k1 k2 k3 k4
        simp only [Nat.add_zero] at k0
        refine ⟨k0, ?_, ?_, ?_, ?_⟩
        · rw [Nat.add_assoc]; exact k1
        · rw [Nat.add_assoc]; exact k2
        · rw [Nat.add_assoc]; exact k3
        · rw [Nat.add_assoc]; exact k4

set_option maxRecDepth 100000 in
/-- A diagram that came in. -/
theorem diag_open {H : Type} {enc : TypeId × Value → H} {W : World} {v : Value} {d : DataW H} {p : List MemPlace} {base : Nat} (hv : Value.okWide Try.prog W .any base 24 v)
    (h : DataW.Trod enc Try.prog W 0 (fun _ => true) true 24 v d p) (hw : ∀ n ∈ d.weights Try.prog 24, n ≤ reachBytes) :
    ∃ v0 C loops, v = .agg #[v0, .int .i64 loops] ∧ CrsW W W.heap.size v0 C ∧ C.length * 40 ≤ 140737488355328 ∧ -9223372036854775808 ≤ loops ∧ loops ≤ 9223372036854775807 := by
  obtain ⟨cs, rfl, hsz⟩ := okWide_struct Try.underlying24 hv
  rw [cellsDiagram] at hsz
  obtain ⟨c0, c1, rfl⟩ : ∃ c0 c1, cs = #[c0, c1] := by
    obtain ⟨l⟩ := cs
    match l, hsz with
    | [c0, c1], _ => exact ⟨c0, c1, rfl⟩
  obtain ⟨fuel, hf⟩ := h
  obtain ⟨y0, y1, n, hx, -, h0, h1⟩ := trod_struct2 Try.underlying24 hf
  simp only [Prod.mk.injEq] at hx
  have g0 : DataW.trod enc Try.prog W 0 (fun _ => true) true n 22 [c0] = some y0 := by simpa [Value.cells, cellsCrossL] using h0
  have g1 : DataW.trod enc Try.prog W 0 (fun _ => true) true n 3 [c1] = some y1 := by simpa [Value.cells, cellsInt] using h1
  obtain ⟨z, e1, -, hz⟩ := DataW.trod_int Try.underlying3 g1
  simp only [List.cons.injEq, and_true] at e1
  subst e1
  obtain ⟨C, hC, hl⟩ := cross_trod (d := y0.1) (p := y0.2) g0 (fun k hk => hw k (by
    rw [hx.1]
    simp only [DataW.weights, Try.underlying24]
    exact List.mem_append_left _ hk))
  exact ⟨c0, C, z, rfl, hC, hl, wf_i64 hz⟩
end Go.Proofs.Ytlcogbcpmneknaa
