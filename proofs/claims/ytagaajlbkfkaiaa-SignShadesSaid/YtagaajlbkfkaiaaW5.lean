/- The walks of ref.DiagramOf and gauss.Strands; rows that are the same. -/
import Derived.Test.YtagaajlbkfkaiaaW3
import Derived.Test.YtagaajlbkfkaiaaH7
namespace Go.Proofs.Ytagaajlbkfkaiaa
open Go.RowKit

/-- The crossings as cells, one behind the other. -/
def crossCells (C : List Cr) : List Value := C.flatMap fun x => [.int .i64 x.a, .int .i64 x.b, .int .i64 x.c, .int .i64 x.d, .bool x.plus]
theorem cells_length (C : List Cr) : (crossCells C).length = C.length * 5 := by
  induction C with
  | nil => rfl
  | cons t l ih => simp [crossCells] at *; omega
theorem cells_get (C : List Cr) (i : Nat) (hi : i < C.length) : (crossCells C)[i * 5]? = some (.int .i64 (C.getD i Cr.none).a) ∧ (crossCells C)[i * 5 + 1]? = some (.int .i64 (C.getD i Cr.none).b) ∧ (crossCells C)[i * 5 + 2]? = some (.int .i64 (C.getD i Cr.none).c) ∧ (crossCells C)[i * 5 + 3]? = some (.int .i64 (C.getD i Cr.none).d) ∧ (crossCells C)[i * 5 + 4]? = some (.bool (C.getD i Cr.none).plus) := by
  induction C generalizing i with
  | nil => simp at hi
  | cons t l ih =>
    have e : crossCells (t :: l) = .int .i64 t.a :: .int .i64 t.b :: .int .i64 t.c :: .int .i64 t.d :: .bool t.plus :: crossCells l := rfl
    cases i with
    | zero => rw [e]; exact ⟨rfl, rfl, rfl, rfl, rfl⟩
    | succ i =>
      have := ih i (by simpa using hi)
      have e1 : (i + 1) * 5 = i * 5 + 1 + 1 + 1 + 1 + 1 := by omega
      rw [e, e1]
      exact this
theorem cells_one (C : List Cr) : ∀ u ∈ crossCells C, u.oneCell' = true := by
  intro u hu
  simp only [crossCells, List.mem_flatMap] at hu
  obtain ⟨t, _, ht⟩ := hu
  simp at ht
  rcases ht with rfl | rfl | rfl | rfl | rfl <;> rfl
theorem cells_at {w : World} {b off : Nat} {C : List Cr} (h : CrossAt w b off C) : ∀ j u, (crossCells C)[j]? = some u → w.cell? ((⟨b, off, none⟩ : Addr).add j) = some u := by
  intro j u hj
  have hlt : j < (crossCells C).length := by
    rcases Nat.lt_or_ge j (crossCells C).length with h | h
    · exact h
    · rw [List.getElem?_eq_none h] at hj; cases hj
  rw [cells_length] at hlt
  have hi : j / 5 < C.length := by omega
  have g := cells_get C (j / 5) hi
  have c := h (j / 5) hi
  rw [Addr.add_lit]
  have h5 : j % 5 = 0 ∨ j % 5 = 1 ∨ j % 5 = 2 ∨ j % 5 = 3 ∨ j % 5 = 4 := by omega
  rcases h5 with e | e | e | e | e
  · rw [show j / 5 * 5 = j by omega] at g c
    rw [g.1] at hj
    rw [← hj]
    exact c.1
  · rw [show j / 5 * 5 + 1 = j by omega] at g
    rw [show off + j / 5 * 5 + 1 = off + j by omega] at c
    rw [g.2.1] at hj
    rw [← hj]
    exact c.2.1
  · rw [show j / 5 * 5 + 2 = j by omega] at g
    rw [show off + j / 5 * 5 + 2 = off + j by omega] at c
    rw [g.2.2.1] at hj
    rw [← hj]
    exact c.2.2.1
  · rw [show j / 5 * 5 + 3 = j by omega] at g
    rw [show off + j / 5 * 5 + 3 = off + j by omega] at c
    rw [g.2.2.2.1] at hj
    rw [← hj]
    exact c.2.2.2.1
  · rw [show j / 5 * 5 + 4 = j by omega] at g
    rw [show off + j / 5 * 5 + 4 = off + j by omega] at c
    rw [g.2.2.2.2] at hj
    rw [← hj]
    exact c.2.2.2.2
theorem crs_own {w : World} {B e : Nat} {v : Value} {C : List Cr} (h : w.ownsRow B e 5 v C.length (crossCells C)) (hn : C.length ≤ maxLen) : Crs w w.heap.size v C := by
  have h0 := h
  rcases h.2 with ⟨rfl, h1⟩ | ⟨g, cap, cur, rfl, _, _, _⟩
  · exact ⟨none, 0, by rw [h1], hn, fun hp => by omega⟩
  · refine ⟨some ⟨g, 0, none⟩, cap, rfl, hn, fun _ => ⟨g, 0, rfl, (h0.lt g rfl).2, fun i hi => ?_⟩⟩
    have g0 := cells_get C i hi
    rw [Nat.zero_add]
    exact ⟨(h0.cellAt (i * 5) (by omega)).trans g0.1, (h0.cellAt (i * 5 + 1) (by omega)).trans g0.2.1, (h0.cellAt (i * 5 + 2) (by omega)).trans g0.2.2.1, (h0.cellAt (i * 5 + 3) (by omega)).trans g0.2.2.2.1, (h0.cellAt (i * 5 + 4) (by omega)).trans g0.2.2.2.2⟩
/-- A slice of crossings as it is handed in. -/
def CrsW (w : World) (B : Nat) (v : Value) (C : List Cr) : Prop :=
  (v = .slice none 0 0 ∧ C = []) ∨ (∃ ad cap, v = .slice (some ad) 0 cap ∧ C = []) ∨ ∃ b off cap, v = .slice (some ⟨b, off, none⟩) C.length cap ∧ b < B ∧ CrossAt w b off C
theorem CrsW.crs {w : World} {B : Nat} {v : Value} {C : List Cr} (h : CrsW w B v C) (hn : C.length ≤ maxLen) : Crs w B v C := by
  rcases h with ⟨rfl, rfl⟩ | ⟨ad, cap, rfl, rfl⟩ | ⟨b, off, cap, rfl, hlt, hC⟩
  · exact ⟨none, 0, rfl, hn, fun hp => by simp at hp⟩
  · exact ⟨some ad, cap, rfl, hn, fun hp => by simp at hp⟩
  · exact ⟨some ⟨b, off, none⟩, cap, rfl, hn, fun _ => ⟨b, off, rfl, hlt, hC⟩⟩
theorem CrsW.up {w w' : World} {v : Value} {C : List Cr} (h : CrsW w w.heap.size v C) (hb : Below w.heap.size w w') : CrsW w' w'.heap.size v C := by
  rcases h with h | h | ⟨b, off, cap, hv, hlt, hC⟩
  · exact Or.inl h
  · exact Or.inr (Or.inl h)
  · exact Or.inr (Or.inr ⟨b, off, cap, hv, Nat.lt_of_lt_of_le hlt hb.size, hC.on hb hlt⟩)
theorem infoCross : (Try.prog.info? 71).map (fun i => (i.zero, i.size, i.bytes)) = some (some (.agg #[.int .i64 0, .int .i64 0, .int .i64 0, .int .i64 0, .bool false]), 5, 40) := by kernel_rfl

set_option maxHeartbeats 2000000 in
set_option maxRecDepth 100000 in
theorem diagramOf_any (v : Value) (C : List Cr) (loops : Int) (w : World) (hl : C.length * 40 ≤ 140737488355328) (h : CrsW w w.heap.size v C) :
    Calls Try.prog 10 #[.agg #[v, .int .i64 loops]] w fun e w' => ∃ v', e = .returned (.agg #[v', .int .i64 loops]) ∧ Crs w' w'.heap.size v' C ∧ Below w.heap.size w w' := by
  obtain ⟨i0, hi, hz0, hz1, hz2⟩ := info_parts infoCross
  have hm : C.length ≤ maxLen := by unfold maxLen; omega
  obtain ⟨w0, hw0⟩ : ∃ w0, w0 = (w.alloc (.cells #[v, .int .i64 loops] 24)).alloc (.cells #[.slice none 0 0, .int .i64 0] 24) := ⟨_, rfl⟩
  have HW0 : Hid (w0 = (w.alloc (.cells #[v, .int .i64 loops] 24)).alloc (.cells #[.slice none 0 0, .int .i64 0] 24)) := hw0
  have hs0 : w0.heap.size = w.heap.size + 2 := by rw [hw0]; simp
  have HB0 : Hid (Below w.heap.size w w0) := (by rw [hw0]; exact below2 _ _ _ : Below w.heap.size w w0)
  clear hw0
  rcases h with ⟨rfl, rfl⟩ | ⟨ad, cap, rfl, rfl⟩ | ⟨b, off, cap, rfl, hlt, hC⟩
  · go_enter Try.func10, Try.ntmps10
    go_wp2_with (at_builtin; refine wpList_append_own_none rfl _ _ 22 rfl w.heap.size 71 i0 5 Try.underlying22 hi _ 0 [] rfl (World.ownsRow_nil _ _ _ _) rfl ?_)
    exact bodyPost_ret (v := .agg #[.slice none 0 0, .int .i64 loops]) (by simp [results, Try.results10, go_sem]) rfl ⟨_, rfl, ⟨none, 0, rfl, hm, fun hp => by simp at hp⟩, below2 _ _ _⟩
  · have c0 : w0.heap[w.heap.size]? = some (.cells #[.slice (some ad) 0 cap, .int .i64 loops] 24 (0, 0)) := by rw [HW0.out]; exact alloc_old (alloc_at rfl)
    have c1 : w0.heap[w.heap.size + 1]? = some (.cells #[.slice none 0 0, .int .i64 0] 24 (0, 0)) := by rw [HW0.out]; exact alloc_at (by simp)
    have HC0 : Hid (w0.heap[w.heap.size]? = some (.cells #[.slice (some ad) 0 cap, .int .i64 loops] 24 (0, 0))) := c0
    have HC1 : Hid (w0.heap[w.heap.size + 1]? = some (.cells #[.slice none 0 0, .int .i64 0] 24 (0, 0))) := c1
    clear c0 c1
    go_enter Try.func10, Try.ntmps10
    go_wp2_with (at_builtin; refine wpList_append_own _ rfl _ _ 22 rfl (w.heap.size + 2) 71 i0 (.agg #[.int .i64 0, .int .i64 0, .int .i64 0, .int .i64 0, .bool false]) 5 40 Try.underlying22 hi hz0 hz1 hz2 rfl (by decide) _ 0 [] rfl (World.ownsRow_nil _ _ _ _) ad 0 cap [] rfl rfl (fun j u h => by simp at h) (fun u h => by simp at h) (by decide) (by decide) (by simp) ?_; intro v' w1 hown hgr _; refine Hid.out ?_)
    refine Lib.hid ?_
    rw [← HW0.out] at hgr
    have HGR : Hid (w0.grownBy w1 none) := hgr
    have HOW : Hid (w1.ownsRow (w.heap.size + 2) 71 5 v' (0 + 0) ([] ++ [])) := hown
    obtain ⟨a', c', rfl⟩ := own_capS hown
    have hs1 := hgr.size
    clear hown hgr
    have hg0 := (HGR.out.block _ (by omega) (by simp)).trans HC0.out
    have hg1 := (HGR.out.block _ (by omega) (by simp)).trans HC1.out
    have p0 : w1.cell? ⟨w.heap.size, 0, none⟩ = some (.slice (some ad) 0 cap) := block_cell hg0 rfl
    have p1 : w1.cell? ⟨w.heap.size, 1, none⟩ = some (.int .i64 loops) := block_cell hg0 rfl
    have p2 : w1.cell? ⟨w.heap.size + 1, 0, none⟩ = some (.slice none 0 0) := block_cell hg1 rfl
    have p3 : w1.cell? ⟨w.heap.size + 1, 1, none⟩ = some (.int .i64 0) := block_cell hg1 rfl
    have f0 : w1.frozen? ⟨w.heap.size, 0, none⟩ = false := block_frozen hg0
    have f2 : w1.frozen? ⟨w.heap.size + 1, 0, none⟩ = false := block_frozen hg1
    have f3 : w1.frozen? ⟨w.heap.size + 1, 1, none⟩ = false := block_frozen hg1
    have HG1 : Hid (w1.heap[w.heap.size + 1]? = some (.cells #[.slice none 0 0, .int .i64 0] 24 (0, 0))) := hg1
    clear hg0 hg1
    go_wp2
    have hq0 := ((set_grown w1 w.heap.size 0 (.slice a' 0 c')).block (w.heap.size + 1) (by omega) (fun e => by have := Option.some.inj e; omega)).trans HG1.out
    have hq := set_block (i := 1) (u := .int .i64 loops) (set_block (i := 0) (u := .slice a' 0 c') hq0)
    have x0 := block_cell (i := 0) (v := .slice a' 0 c') hq rfl
    have x1 := block_cell (i := 1) (v := .int .i64 loops) hq rfl
    have hk1 := HOW.out.kept (set_grown w1 w.heap.size 0 (.slice a' 0 c')) (by rcases HOW.out.2 with ⟨e, _⟩ | ⟨g, cp, cu, e, hg, _⟩ <;> injection e with e1 e2 e3 <;> subst e1 <;> first | exact Or.inl rfl | (refine Or.inr (fun e => ?_); have : g = w.heap.size := Option.some.inj e; omega))
    have hk2 := hk1.kept (st2_grown (w1.setCell ⟨w.heap.size, 0, none⟩ (.slice a' 0 c')) (w.heap.size + 1) 0 (.slice a' 0 c') (.int .i64 loops)) (by rcases HOW.out.2 with ⟨e, _⟩ | ⟨g, cp, cu, e, hg, _⟩ <;> injection e with e1 e2 e3 <;> subst e1 <;> first | exact Or.inl rfl | (refine Or.inr (fun e => ?_); have : g = w.heap.size + 1 := Option.some.inj e; omega))
    refine bodyPost_ret (v := .agg #[.slice a' 0 c', .int .i64 loops]) (by simp [results, Try.results10, go_sem, x0, x1]) rfl ⟨_, rfl, ?_, ?_⟩
    · rw [Nat.zero_add, List.nil_append] at hk2
      exact crs_own (C := []) hk2 hm
    · exact ((HB0.out.grown HGR.out (by omega) (fun k hk => by cases hk)).grown (set_grown w1 w.heap.size 0 (.slice a' 0 c')) (by omega) (fun k hk => by have := Option.some.inj hk; omega)).grown (st2_grown (w1.setCell ⟨w.heap.size, 0, none⟩ (.slice a' 0 c')) (w.heap.size + 1) 0 (.slice a' 0 c') (.int .i64 loops)) (by simp; omega) (fun k hk => by have := Option.some.inj hk; omega)
  · have c0 : w0.heap[w.heap.size]? = some (.cells #[.slice (some ⟨b, off, none⟩) C.length cap, .int .i64 loops] 24 (0, 0)) := by rw [HW0.out]; exact alloc_old (alloc_at rfl)
    have c1 : w0.heap[w.heap.size + 1]? = some (.cells #[.slice none 0 0, .int .i64 0] 24 (0, 0)) := by rw [HW0.out]; exact alloc_at (by simp)
    have HC0 : Hid (w0.heap[w.heap.size]? = some (.cells #[.slice (some ⟨b, off, none⟩) C.length cap, .int .i64 loops] 24 (0, 0))) := c0
    have HC1 : Hid (w0.heap[w.heap.size + 1]? = some (.cells #[.slice none 0 0, .int .i64 0] 24 (0, 0))) := c1
    clear c0 c1
    have HCA : Hid (CrossAt ((w.alloc (.cells #[.slice (some ⟨b, off, none⟩) C.length cap, .int .i64 loops] 24)).alloc (.cells #[.slice none 0 0, .int .i64 0] 24)) b off C) := hC.on (below2 _ _ _) hlt
    clear hC
    go_enter Try.func10, Try.ntmps10
    go_wp2_with (at_builtin; refine wpList_append_own _ rfl _ _ 22 rfl (w.heap.size + 2) 71 i0 (.agg #[.int .i64 0, .int .i64 0, .int .i64 0, .int .i64 0, .bool false]) 5 40 Try.underlying22 hi hz0 hz1 hz2 rfl (by decide) _ 0 [] rfl (World.ownsRow_nil _ _ _ _) ⟨b, off, none⟩ C.length cap (crossCells C) rfl (cells_length C) (cells_at HCA.out) (cells_one C) (by unfold maxLen; omega) (by omega) (by simp) ?_; intro v' w1 hown hgr _; refine Hid.out ?_)
    refine Lib.hid ?_
    rw [← HW0.out] at hgr
    have HGR : Hid (w0.grownBy w1 none) := hgr
    have HOW : Hid (w1.ownsRow (w.heap.size + 2) 71 5 v' (0 + C.length) ([] ++ (crossCells C))) := hown
    obtain ⟨a', c', rfl⟩ := own_capS hown
    have hs1 := hgr.size
    clear hown hgr
    have hg0 := (HGR.out.block _ (by omega) (by simp)).trans HC0.out
    have hg1 := (HGR.out.block _ (by omega) (by simp)).trans HC1.out
    have p0 : w1.cell? ⟨w.heap.size, 0, none⟩ = some (.slice (some ⟨b, off, none⟩) C.length cap) := block_cell hg0 rfl
    have p1 : w1.cell? ⟨w.heap.size, 1, none⟩ = some (.int .i64 loops) := block_cell hg0 rfl
    have p2 : w1.cell? ⟨w.heap.size + 1, 0, none⟩ = some (.slice none 0 0) := block_cell hg1 rfl
    have p3 : w1.cell? ⟨w.heap.size + 1, 1, none⟩ = some (.int .i64 0) := block_cell hg1 rfl
    have f0 : w1.frozen? ⟨w.heap.size, 0, none⟩ = false := block_frozen hg0
    have f2 : w1.frozen? ⟨w.heap.size + 1, 0, none⟩ = false := block_frozen hg1
    have f3 : w1.frozen? ⟨w.heap.size + 1, 1, none⟩ = false := block_frozen hg1
    have HG1 : Hid (w1.heap[w.heap.size + 1]? = some (.cells #[.slice none 0 0, .int .i64 0] 24 (0, 0))) := hg1
    clear hg0 hg1
    go_wp2
    have hq0 := ((set_grown w1 w.heap.size 0 (.slice a' C.length c')).block (w.heap.size + 1) (by omega) (fun e => by have := Option.some.inj e; omega)).trans HG1.out
    have hq := set_block (i := 1) (u := .int .i64 loops) (set_block (i := 0) (u := .slice a' C.length c') hq0)
    have x0 := block_cell (i := 0) (v := .slice a' C.length c') hq rfl
    have x1 := block_cell (i := 1) (v := .int .i64 loops) hq rfl
    have hk1 := HOW.out.kept (set_grown w1 w.heap.size 0 (.slice a' C.length c')) (by rcases HOW.out.2 with ⟨e, _⟩ | ⟨g, cp, cu, e, hg, _⟩ <;> injection e with e1 e2 e3 <;> subst e1 <;> first | exact Or.inl rfl | (refine Or.inr (fun e => ?_); have : g = w.heap.size := Option.some.inj e; omega))
    have hk2 := hk1.kept (st2_grown (w1.setCell ⟨w.heap.size, 0, none⟩ (.slice a' C.length c')) (w.heap.size + 1) 0 (.slice a' C.length c') (.int .i64 loops)) (by rcases HOW.out.2 with ⟨e, _⟩ | ⟨g, cp, cu, e, hg, _⟩ <;> injection e with e1 e2 e3 <;> subst e1 <;> first | exact Or.inl rfl | (refine Or.inr (fun e => ?_); have : g = w.heap.size + 1 := Option.some.inj e; omega))
    refine bodyPost_ret (v := .agg #[.slice a' C.length c', .int .i64 loops]) (by simp [results, Try.results10, go_sem, x0, x1]) rfl ⟨_, rfl, ?_, ?_⟩
    · rw [Nat.zero_add, List.nil_append] at hk2
      exact crs_own (C := C) hk2 hm
    · exact ((HB0.out.grown HGR.out (by omega) (fun k hk => by cases hk)).grown (set_grown w1 w.heap.size 0 (.slice a' C.length c')) (by omega) (fun k hk => by have := Option.some.inj hk; omega)).grown (st2_grown (w1.setCell ⟨w.heap.size, 0, none⟩ (.slice a' C.length c')) (w.heap.size + 1) 0 (.slice a' C.length c') (.int .i64 loops)) (by simp; omega) (fun k hk => by have := Option.some.inj hk; omega)

theorem own_terms {w : World} {B e n g c : Nat} {l : List (Int × Int)} (h : w.ownsRow B e 2 (.slice (some ⟨g, 0, none⟩) n c) n (flat l)) (hl : l.length = n) : TermsAt w g 0 l := by
  intro i hi
  have g0 := flat_get l i hi
  rw [Nat.zero_add]
  exact ⟨(h.cellAt (i * 2) (by omega)).trans g0.1, (h.cellAt (i * 2 + 1) (by omega)).trans g0.2⟩
/-- What drawing.Of answered is a drawing. -/
theorem Drawn.dr {w w' : World} {a : Option Addr} {cap : Nat} {loops : Int} {C : List Cr} {D : Value} (h : Drawn w w' w.heap.size (.slice a C.length cap) loops C D) (hm : mayD C loops = true) (hb : Below w.heap.size w w') (hC : Crs w w.heap.size (.slice a C.length cap) C) :
    ∃ gF cF gT cT, D = drV a cap C loops gF cF gT cT ∧ Dr w' a cap C gF gT := by
  obtain ⟨gF, cF, gT, cT, rfl, h1, h2⟩ := h.yes hm
  exact ⟨gF, cF, gT, cT, rfl, hC.up hb, (h1.lt gF rfl).2, (h2.lt gT rfl).2, own_terms h1 (ends_length _ _ _ _), own_terms h2 (ends_length _ _ _ _)⟩

set_option maxHeartbeats 2000000 in
set_option maxRecDepth 100000 in
theorem strands_no (v : Value) (C : List Cr) (loops : Int) (w : World) (hm : mayD C loops = false) (h : Crs w w.heap.size v C) :
    Calls Try.prog 47 #[.agg #[v, .int .i64 loops]] w fun e w' => e = .returned (.tuple #[.slice none 0 0, .int .i64 7]) ∧ Below w.heap.size w w' := by
  have HC : Hid (Crs w w.heap.size v C) := h
  obtain ⟨a, cap, rfl, hn, -⟩ := h
  have HB1 : Hid (Below w.heap.size w (w.alloc (.cells #[.slice a C.length cap, .int .i64 loops] 24))) := (Below.refl _ _).alloc (Nat.le_refl _) _
  go_enter Try.func47, Try.ntmps47
  go_wp2_with (go_at_call 50; refine (of_any _ C loops _ (HC.out.up HB1.out)).mono ?_; rw [hm]; rintro e9 w2 ⟨d, rfl, hb2, hd⟩; rw [hd.no hm]; refine Hid.out ?_)
  refine Lib.hid ?_
  unfold noDrawing
  have HB2 : Hid (Below w.heap.size w w2) := HB1.out.trans (hb2.mono HB1.out.size)
  clear hb2 hd
  go_wp2
  go_ret2
  exact ⟨rfl, HB2.out.alloc HB2.out.size _⟩

set_option maxHeartbeats 2000000 in
set_option maxRecDepth 100000 in
theorem strands_yes (v : Value) (C : List Cr) (loops : Int) (w : World) (hm : mayD C loops = true) (h : Crs w w.heap.size v C) :
    Calls Try.prog 47 #[.agg #[v, .int .i64 loops]] w fun e w' => ∃ r, e = .returned (.tuple #[r, .int .i64 0]) ∧ NatsOwn w' w.heap.size r (walksM C) ∧ Below w.heap.size w w' := by
  have HC : Hid (Crs w w.heap.size v C) := h
  have HM : Hid (mayD C loops = true) := hm
  obtain ⟨a, cap, rfl, hn, -⟩ := h
  have HB1 : Hid (Below w.heap.size w (w.alloc (.cells #[.slice a C.length cap, .int .i64 loops] 24))) := (Below.refl _ _).alloc (Nat.le_refl _) _
  go_enter Try.func47, Try.ntmps47
  go_wp2_with (go_at_call 50; refine (of_any _ C loops _ (HC.out.up HB1.out)).mono ?_; rw [hm]; rintro e9 w2 ⟨d, rfl, hb2, hd⟩; obtain ⟨gF, cF, gT, cT, rfl, hdr⟩ := hd.dr HM.out hb2 (HC.out.up HB1.out); refine Hid.out ?_)
  refine Lib.hid ?_
  have HDR : Hid (Dr w2 a cap C gF gT) := hdr
  unfold drV
  have HB2 : Hid (Below w.heap.size w w2) := HB1.out.trans (hb2.mono HB1.out.size)
  have HBA : Hid (Below w2.heap.size w2 (w2.alloc (.cells #[.slice a C.length cap, .int .i64 loops, .slice (some ⟨gF, 0, none⟩) (2 * C.length + 1) cF, .slice (some ⟨gT, 0, none⟩) (2 * C.length + 1) cT] 61))) := (Below.refl _ _).alloc (Nat.le_refl _) _
  clear hb2 hd hdr hm
  go_wp2_with (go_at_call 72; refine (walks_any a cap C loops gF cF gT cT _ HM.out (HDR.out.on HBA.out)).mono ?_; rintro e9 w3 ⟨r, rfl, hr, hb3⟩; refine Hid.out ?_)
  refine Lib.hid ?_
  have HR : Hid (NatsOwn w3 w.heap.size r (walksM C)) := hr.low (by have := HB2.out.size; simp; omega)
  have HB3 : Hid (Below w.heap.size w w3) := (HB2.out.trans (HBA.out.mono HB2.out.size)).trans (hb3.mono (by have := HB2.out.size; simp; omega))
  clear hr hb3
  go_wp2
  go_ret2
  exact ⟨_, rfl, HR.out, HB3.out⟩
end Go.Proofs.Ytagaajlbkfkaiaa
