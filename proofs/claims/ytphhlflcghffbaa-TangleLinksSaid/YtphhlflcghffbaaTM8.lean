/- The boxes of ref.LinkOf, and what a tied pair leaves of them. -/
import Derived.Test.YtphhlflcghffbaaTM6P
namespace Go.Proofs.Ytphhlflcghffbaa
open Go.RowKit Go.Maps

theorem tiedK (b gc : Nat) (P : List (Nat × Nat)) (aa ab : Option Addr) (ca cb : Nat) (x y : Nat) (w : World) (h : PrAt w (b + 6) P (.slice aa P.length ca) (.slice ab P.length cb)) (hn : P.length ≤ 1000) (hB : b + 6 ≤ w.heap.size) (hgc : gc < w.heap.size) (na : (Value.slice aa P.length ca).ownBlock ≠ some gc) (nb : (Value.slice ab P.length cb).ownBlock ≠ some gc) :
    Calls Try.prog 89 #[.agg #[.slice aa P.length ca, .slice ab P.length cb], spV x, spV y] w fun e w' => ∃ g1 c1 g2 c2, e = .returned (.agg #[.slice (some ⟨g1, 0, none⟩) (P.length + 1) c1, .slice (some ⟨g2, 0, none⟩) (P.length + 1) c2]) ∧ PrAt w' (b + 6) (P ++ [(x, y)]) (.slice (some ⟨g1, 0, none⟩) (P.length + 1) c1) (.slice (some ⟨g2, 0, none⟩) (P.length + 1) c2) ∧ Below (b + 6) w w' ∧ w'.heap[gc]? = w.heap[gc]? ∧ g1 ≠ gc ∧ g2 ≠ gc := by
  refine (tied_anyR (b + 6) P aa ab ca cb x y w h hn hB).mono ?_
  rintro e w' ⟨g1, c1, g2, c2, rfl, hp, hg, h1, h2⟩
  refine ⟨g1, c1, g2, c2, rfl, hp, hg.low hB (fun k hk => (h.a.lt k hk).1) (fun k hk => (h.b.lt k hk).1), hg.block gc hgc (fun e => na e.symm) (fun e => nb e.symm), fun e => ?_, fun e => ?_⟩
  · subst e
    rcases h1 with h1 | h1
    · exact na h1.symm
    · omega
  · subst e
    rcases h2 with h2 | h2
    · exact nb h2.symm
    · omega
theorem st2_ne (W : World) (g k : Nat) (u v : Value) (h : k ≠ g) : ((W.setCell ⟨g, 0, none⟩ u).setCell ⟨g, 1, none⟩ v).heap[k]? = W.heap[k]? := by
  rw [RowKit.Below.heap_setCell _ _ _ _ h, RowKit.Below.heap_setCell _ _ _ _ h]
theorem st2_eq {W : World} {g : Nat} {a c : Value} {t : TypeId} (h : W.heap[g]? = some (.cells #[a, c] t (0, 0))) (u v : Value) : ((W.setCell ⟨g, 0, none⟩ u).setCell ⟨g, 1, none⟩ v).heap[g]? = some (.cells #[u, v] t (0, 0)) := by
  rw [set_block (set_block h)]; rfl
/-- The boxes: the result, the pairs, the four ends. -/
structure Bx (W : World) (b : Nat) (va vb : Value) (ne sw se : Nat) : Prop where
  d : W.heap[b]? = some (.cells #[.slice none 0 0, .int .i64 0] 24 (0, 0))
  t : W.heap[b + 1]? = some (.cells #[va, vb] 129 (0, 0))
  n0 : W.heap[b + 1 + 1]? = some (.cells #[.int .i64 (spP 0).1, .int .i64 (spP 0).2] 120 (0, 0))
  n1 : W.heap[b + 1 + 1 + 1]? = some (.cells #[.int .i64 (spP ne).1, .int .i64 (spP ne).2] 120 (0, 0))
  n2 : W.heap[b + 1 + 1 + 1 + 1]? = some (.cells #[.int .i64 (spP sw).1, .int .i64 (spP sw).2] 120 (0, 0))
  n3 : W.heap[b + 1 + 1 + 1 + 1 + 1]? = some (.cells #[.int .i64 (spP se).1, .int .i64 (spP se).2] 120 (0, 0))
theorem Bx.size {W : World} {b : Nat} {va vb : Value} {ne sw se : Nat} (h : Bx W b va vb ne sw se) : b + 6 ≤ W.heap.size := by
  have := (Array.getElem?_eq_some_iff.1 h.n3).1
  omega
theorem Bx.on {W W' : World} {b : Nat} {va vb : Value} {ne sw se : Nat} (h : Bx W b va vb ne sw se) (hb : Below (b + 6) W W') : Bx W' b va vb ne sw se :=
  ⟨(hb.block _ (by omega)).trans h.d, (hb.block _ (by omega)).trans h.t, (hb.block _ (by omega)).trans h.n0, (hb.block _ (by omega)).trans h.n1, (hb.block _ (by omega)).trans h.n2, (hb.block _ (by omega)).trans h.n3⟩
theorem Bx.setT {W : World} {b : Nat} {va vb : Value} {ne sw se : Nat} (h : Bx W b va vb ne sw se) (ua ub : Value) : Bx ((W.setCell ⟨b + 1, 0, none⟩ ua).setCell ⟨b + 1, 1, none⟩ ub) b ua ub ne sw se :=
  ⟨(st2_ne _ _ _ _ _ (by omega)).trans h.d, st2_eq h.t _ _, (st2_ne _ _ _ _ _ (by omega)).trans h.n0, (st2_ne _ _ _ _ _ (by omega)).trans h.n1, (st2_ne _ _ _ _ _ (by omega)).trans h.n2, (st2_ne _ _ _ _ _ (by omega)).trans h.n3⟩
theorem Bx.set1 {W : World} {b : Nat} {va vb : Value} {ne sw se : Nat} (h : Bx W b va vb ne sw se) (x : Nat) : Bx ((W.setCell ⟨b + 1 + 1 + 1, 0, none⟩ (.int .i64 (spP x).1)).setCell ⟨b + 1 + 1 + 1, 1, none⟩ (.int .i64 (spP x).2)) b va vb x sw se :=
  ⟨(st2_ne _ _ _ _ _ (by omega)).trans h.d, (st2_ne _ _ _ _ _ (by omega)).trans h.t, (st2_ne _ _ _ _ _ (by omega)).trans h.n0, st2_eq h.n1 _ _, (st2_ne _ _ _ _ _ (by omega)).trans h.n2, (st2_ne _ _ _ _ _ (by omega)).trans h.n3⟩
theorem Bx.set2 {W : World} {b : Nat} {va vb : Value} {ne sw se : Nat} (h : Bx W b va vb ne sw se) (x : Nat) : Bx ((W.setCell ⟨b + 1 + 1 + 1 + 1, 0, none⟩ (.int .i64 (spP x).1)).setCell ⟨b + 1 + 1 + 1 + 1, 1, none⟩ (.int .i64 (spP x).2)) b va vb ne x se :=
  ⟨(st2_ne _ _ _ _ _ (by omega)).trans h.d, (st2_ne _ _ _ _ _ (by omega)).trans h.t, (st2_ne _ _ _ _ _ (by omega)).trans h.n0, (st2_ne _ _ _ _ _ (by omega)).trans h.n1, st2_eq h.n2 _ _, (st2_ne _ _ _ _ _ (by omega)).trans h.n3⟩
theorem Bx.set3 {W : World} {b : Nat} {va vb : Value} {ne sw se : Nat} (h : Bx W b va vb ne sw se) (x : Nat) : Bx ((W.setCell ⟨b + 1 + 1 + 1 + 1 + 1, 0, none⟩ (.int .i64 (spP x).1)).setCell ⟨b + 1 + 1 + 1 + 1 + 1, 1, none⟩ (.int .i64 (spP x).2)) b va vb ne sw x :=
  ⟨(st2_ne _ _ _ _ _ (by omega)).trans h.d, (st2_ne _ _ _ _ _ (by omega)).trans h.t, (st2_ne _ _ _ _ _ (by omega)).trans h.n0, (st2_ne _ _ _ _ _ (by omega)).trans h.n1, (st2_ne _ _ _ _ _ (by omega)).trans h.n2, st2_eq h.n3 _ _⟩
theorem PrAt.any {W W' : World} {B : Nat} {P : List (Nat × Nat)} {va vb : Value} (h : PrAt W B P va vb) (hg : W.grownBy W' none) : PrAt W' B P va vb := ⟨own_any h.a hg, own_any h.b hg, h.ne⟩
theorem PrAt.set {W : World} {b : Nat} {P : List (Nat × Nat)} {va vb : Value} (h : PrAt W (b + 6) P va vb) (q : Nat) (hq : q < b + 6) (u v : Value) : PrAt ((W.setCell ⟨q, 0, none⟩ u).setCell ⟨q, 1, none⟩ v) (b + 6) P va vb := by
  have hg : W.grownBy ((W.setCell ⟨q, 0, none⟩ u).setCell ⟨q, 1, none⟩ v) (some q) := grown_two (set_grown _ _ _ _) (set_grown _ _ _ _)
  exact ⟨h.a.kept hg (Or.inr fun e => by have := (h.a.lt q e).1; omega), h.b.kept hg (Or.inr fun e => by have := (h.b.lt q e).1; omega), h.ne⟩
theorem low_set {W w : World} {b q : Nat} (h : Below b w W) (hs : b ≤ W.heap.size) (hq : b ≤ q) (u v : Value) : Below b w ((W.setCell ⟨q, 0, none⟩ u).setCell ⟨q, 1, none⟩ v) :=
  h.grown (grown_two (set_grown _ _ _ _) (set_grown _ _ _ _) : W.grownBy ((W.setCell ⟨q, 0, none⟩ u).setCell ⟨q, 1, none⟩ v) (some q)) hs (fun k hk => by have := Option.some.inj hk; omega)
/-- The state of ref.LinkOf under way. -/
def LkS (w W : World) (b : Nat) (r : RS) : Prop := Below b w W ∧ ∃ aa ab ca cb, Bx W b (.slice aa r.P.length ca) (.slice ab r.P.length cb) r.ne r.sw r.se ∧ PrAt W (b + 6) r.P (.slice aa r.P.length ca) (.slice ab r.P.length cb)
/-- The corners as ref.LinkOf lays them. -/
theorem corP (n : Nat) (up : Bool) (c : Nat) : spP (cor n up c) = (((n : Nat) : Int), ((sdOf up c : Nat) : Int)) := by
  have h := sdOf_lt up c
  unfold spP cor
  refine Prod.ext ?_ ?_ <;> simp <;> omega
theorem tiedB (b gc L : Nat) (P : List (Nat × Nat)) (aa ab : Option Addr) (ca cb : Nat) (x y : Nat) (GC : Obj) (va vb : Value) (ne sw se : Nat) (w : World) (h : PrAt w (b + 6) P (.slice aa L ca) (.slice ab L cb)) (hL : P.length = L) (hn : L ≤ 1000) (hx : Bx w b va vb ne sw se) (hgc : w.heap[gc]? = some GC) (na : (Value.slice aa L ca).ownBlock ≠ some gc) (nb : (Value.slice ab L cb).ownBlock ≠ some gc) :
    Calls Try.prog 89 #[.agg #[.slice aa L ca, .slice ab L cb], spV x, spV y] w fun e w' => ∃ g1 c1 g2 c2, e = .returned (.agg #[.slice (some ⟨g1, 0, none⟩) (L + 1) c1, .slice (some ⟨g2, 0, none⟩) (L + 1) c2]) ∧ PrAt w' (b + 6) (P ++ [(x, y)]) (.slice (some ⟨g1, 0, none⟩) (L + 1) c1) (.slice (some ⟨g2, 0, none⟩) (L + 1) c2) ∧ Bx w' b va vb ne sw se ∧ w'.heap[gc]? = some GC ∧ g1 ≠ gc ∧ g2 ≠ gc ∧ Below b w w' := by
  subst hL
  refine (tiedK b gc P aa ab ca cb x y w h hn hx.size (Array.getElem?_eq_some_iff.1 hgc).1 na nb).mono ?_
  rintro e w' ⟨g1, c1, g2, c2, rfl, hp, hb, hg, n1, n2⟩
  exact ⟨g1, c1, g2, c2, rfl, hp, hx.on hb, hg.trans hgc, n1, n2, hb.mono (by omega)⟩
theorem six_boxes (w : World) (c0 c1 c2 c3 c4 c5 : Array Value) (t0 t1 t2 t3 t4 t5 : TypeId) (Y : World) (hY : Y = (((((w.alloc (.cells c0 t0)).alloc (.cells c1 t1)).alloc (.cells c2 t2)).alloc (.cells c3 t3)).alloc (.cells c4 t4)).alloc (.cells c5 t5)) :
    Y.heap.size = w.heap.size + 6 ∧ Below w.heap.size w Y ∧ Y.heap[w.heap.size]? = some (.cells c0 t0 (0, 0)) ∧ Y.heap[w.heap.size + 1]? = some (.cells c1 t1 (0, 0)) ∧ Y.heap[w.heap.size + 1 + 1]? = some (.cells c2 t2 (0, 0)) ∧ Y.heap[w.heap.size + 1 + 1 + 1]? = some (.cells c3 t3 (0, 0)) ∧ Y.heap[w.heap.size + 1 + 1 + 1 + 1]? = some (.cells c4 t4 (0, 0)) ∧ Y.heap[w.heap.size + 1 + 1 + 1 + 1 + 1]? = some (.cells c5 t5 (0, 0)) := by
  obtain ⟨W1, h1⟩ : ∃ W1, W1 = w.alloc (.cells c0 t0) := ⟨_, rfl⟩
  obtain ⟨W2, h2⟩ : ∃ W2, W2 = W1.alloc (.cells c1 t1) := ⟨_, rfl⟩
  obtain ⟨W3, h3⟩ : ∃ W3, W3 = W2.alloc (.cells c2 t2) := ⟨_, rfl⟩
  obtain ⟨W4, h4⟩ : ∃ W4, W4 = W3.alloc (.cells c3 t3) := ⟨_, rfl⟩
  obtain ⟨W5, h5⟩ : ∃ W5, W5 = W4.alloc (.cells c4 t4) := ⟨_, rfl⟩
  rw [← h1, ← h2, ← h3, ← h4, ← h5] at hY
  have s1 : W1.heap.size = w.heap.size + 1 := by rw [h1, sz_alloc]
  have s2 : W2.heap.size = w.heap.size + 1 + 1 := by rw [h2, sz_alloc, s1]
  have s3 : W3.heap.size = w.heap.size + 1 + 1 + 1 := by rw [h3, sz_alloc, s2]
  have s4 : W4.heap.size = w.heap.size + 1 + 1 + 1 + 1 := by rw [h4, sz_alloc, s3]
  have s5 : W5.heap.size = w.heap.size + 1 + 1 + 1 + 1 + 1 := by rw [h5, sz_alloc, s4]
  have k0 := box_at w (.cells c0 t0)
  have k1 := box_at W1 (.cells c1 t1)
  have k2 := box_at W2 (.cells c2 t2)
  have k3 := box_at W3 (.cells c3 t3)
  have k4 := box_at W4 (.cells c4 t4)
  have k5 := box_at W5 (.cells c5 t5)
  rw [← h1] at k0
  rw [← h2, s1] at k1
  rw [← h3, s2] at k2
  rw [← h4, s3] at k3
  rw [← h5, s4] at k4
  rw [← hY, s5] at k5
  have l1 : ∀ k, k < W1.heap.size → W2.heap[k]? = W1.heap[k]? := fun k hk => by rw [h2, box_low _ _ hk]
  have l2 : ∀ k, k < W2.heap.size → W3.heap[k]? = W2.heap[k]? := fun k hk => by rw [h3, box_low _ _ hk]
  have l3 : ∀ k, k < W3.heap.size → W4.heap[k]? = W3.heap[k]? := fun k hk => by rw [h4, box_low _ _ hk]
  have l4 : ∀ k, k < W4.heap.size → W5.heap[k]? = W4.heap[k]? := fun k hk => by rw [h5, box_low _ _ hk]
  have l5 : ∀ k, k < W5.heap.size → Y.heap[k]? = W5.heap[k]? := fun k hk => by rw [hY, box_low _ _ hk]
  refine ⟨by rw [hY, sz_alloc, s5], ?_, ?_, ?_, ?_, ?_, ?_, k5⟩
  · rw [hY, h5, h4, h3, h2, h1]
    exact ((((((Below.refl _ _).alloc (Nat.le_refl _) _).alloc (by simp) _).alloc (by simp only [sz_alloc]; omega) _).alloc (by simp only [sz_alloc]; omega) _).alloc (by simp only [sz_alloc]; omega) _).alloc (by simp only [sz_alloc]; omega) _
  · rw [l5 _ (by omega), l4 _ (by omega), l3 _ (by omega), l2 _ (by omega), l1 _ (by omega)]; exact k0
  · rw [l5 _ (by omega), l4 _ (by omega), l3 _ (by omega), l2 _ (by omega)]; exact k1
  · rw [l5 _ (by omega), l4 _ (by omega), l3 _ (by omega)]; exact k2
  · rw [l5 _ (by omega), l4 _ (by omega)]; exact k3
  · rw [l5 _ (by omega)]; exact k4
end Go.Proofs.Ytphhlflcghffbaa
