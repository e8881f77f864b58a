/- The walk of ref.pairing.tied. -/
import Derived.Test.YtphhlflcghffbaaTM1
import Derived.Deep.RegionHeld3
namespace Go.Proofs.Ytphhlflcghffbaa
open Go.RowKit Go.Maps

theorem app_one {w X1 : World} {B : Nat} {P : List (Nat × Nat)} {va vb : Value} (h : PrAt w B P va vb) (hX : w.grownBy X1 none) (hn : P.length ≤ 1000) (hB : B ≤ w.heap.size) (x p1 : Nat) (hp : X1.heap[p1]? = some (.cells #[.int .i64 (spP x).1, .int .i64 (spP x).2] 120 (0, 0))) :
    ∃ g1 c1 Xa, (Builtin.append_ #[127, 127] 127 #[va, .slice (some ⟨p1, 0, none⟩) 1 1]).run Try.prog X1 = .ok (.slice (some ⟨g1, 0, none⟩) (P.length + 1) c1) Xa ∧ Xa.ownsRow B 120 2 (.slice (some ⟨g1, 0, none⟩) (P.length + 1) c1) (P.length + 1) (flat ((P.map fun p => spP p.1) ++ [spP x])) ∧ X1.grownBy Xa va.ownBlock ∧ (va.ownBlock = some g1 ∨ g1 = X1.heap.size) :=
  app_spot X1 B P.length va _ _ _ p1 X1.heap.size 127 (own_any h.a hX) hn hp (Nat.le_trans hB hX.size) rfl
theorem app_two {w X1 Xa X2 : World} {B : Nat} {P : List (Nat × Nat)} {va vb : Value} {g1 c1 : Nat} (h : PrAt w B P va vb) (hX : w.grownBy X1 none) (hn : P.length ≤ 1000) (hB : B ≤ w.heap.size) (x y p2 : Nat)
    (hO : Xa.ownsRow B 120 2 (.slice (some ⟨g1, 0, none⟩) (P.length + 1) c1) (P.length + 1) (flat ((P.map fun p => spP p.1) ++ [spP x]))) (hg1 : X1.grownBy Xa va.ownBlock) (hat : va.ownBlock = some g1 ∨ g1 = X1.heap.size)
    (hX2 : Xa.grownBy X2 none) (hp : X2.heap[p2]? = some (.cells #[.int .i64 (spP y).1, .int .i64 (spP y).2] 120 (0, 0))) :
    ∃ g2 c2 Xb, (Builtin.append_ #[127, 127] 127 #[vb, .slice (some ⟨p2, 0, none⟩) 1 1]).run Try.prog X2 = .ok (.slice (some ⟨g2, 0, none⟩) (P.length + 1) c2) Xb ∧ PrAt Xb B (P ++ [(x, y)]) (.slice (some ⟨g1, 0, none⟩) (P.length + 1) c1) (.slice (some ⟨g2, 0, none⟩) (P.length + 1) c2) ∧ Gr2 w Xb va.ownBlock vb.ownBlock ∧ (some g1 = va.ownBlock ∨ w.heap.size ≤ g1) ∧ (some g2 = vb.ownBlock ∨ w.heap.size ≤ g2) ∧ X2.grownBy Xb vb.ownBlock := by
  have s1 := hX.size
  have s2 := hg1.size
  have s3 := hX2.size
  have hbX : X1.ownsRow B 120 2 vb P.length (flat (P.map fun p => spP p.2)) := own_any h.b hX
  have hne' : vb.ownBlock = none ∨ vb.ownBlock ≠ va.ownBlock := by
    cases hv : vb.ownBlock with
    | none => exact Or.inl rfl
    | some k =>
      right
      intro e
      rcases h.ne with h1 | h1
      · rw [h1] at e; cases e
      · exact h1 (by rw [hv, e])
  have hbA : Xa.ownsRow B 120 2 vb P.length (flat (P.map fun p => spP p.2)) := hbX.kept hg1 hne'
  obtain ⟨g2, c2, Xb, hr, hO2, hgb, hat2⟩ := app_spot X2 B P.length vb _ (spP y).1 (spP y).2 p2 X2.heap.size 127 (own_any hbA hX2) hn hp (by omega) rfl
  have la : ∀ k, va.ownBlock = some k → k < w.heap.size := fun k hk => (h.a.lt k hk).2
  have lb : ∀ k, vb.ownBlock = some k → k < w.heap.size := fun k hk => (h.b.lt k hk).2
  have hg1b : (Value.slice (some ⟨g1, 0, none⟩) (P.length + 1) c1).ownBlock ≠ vb.ownBlock := by
    show some g1 ≠ vb.ownBlock
    intro e
    rcases hat with h1 | h1
    · rcases h.ne with h2 | h2
      · rw [h2] at h1; cases h1
      · exact h2 (by rw [h1, e])
    · have := lb g1 e.symm; omega
  refine ⟨g2, c2, Xb, hr, ⟨?_, ?_, Or.inr ?_⟩, ?_, ?_, ?_, hgb⟩
  · have e : (P ++ [(x, y)]).map (fun p => spP p.1) = (P.map fun p => spP p.1) ++ [spP x] := by simp
    rw [e, show (P ++ [(x, y)]).length = P.length + 1 by simp]
    exact (own_any hO hX2).kept hgb (Or.inr hg1b)
  · have e : (P ++ [(x, y)]).map (fun p => spP p.2) = (P.map fun p => spP p.2) ++ [spP y] := by simp
    rw [e, show (P ++ [(x, y)]).length = P.length + 1 by simp]
    exact hO2
  · show some g1 ≠ some g2
    intro e
    have e := Option.some.inj e
    rcases hat with h1 | h1 <;> rcases hat2 with h2 | h2
    · exact hg1b (by show some g1 = _; rw [e, h2])
    · have := la g1 h1; omega
    · have := lb g2 h2; omega
    · have h3 : g1 < Xa.heap.size := (hO.lt g1 rfl).2
      omega
  · exact (Gr2.of1 (r2 := vb.ownBlock) (grown_two (⟨hX.os, hX.tape, hX.output, hX.size, fun k hk _ => hX.block k hk (by simp)⟩ : w.grownBy X1 va.ownBlock) hg1)).trans (Gr2.of2 (grown_two (⟨hX2.os, hX2.tape, hX2.output, hX2.size, fun k hk _ => hX2.block k hk (by simp)⟩ : Xa.grownBy X2 vb.ownBlock) hgb))
  · rcases hat with h1 | h1
    · exact Or.inl h1.symm
    · exact Or.inr (by omega)
  · rcases hat2 with h1 | h1
    · exact Or.inl h1.symm
    · exact Or.inr (by omega)

theorem step_app_run {P : Program} {ops : Array Oper} {o : Oper} {a : Act} {w : World} {K : Act → World → Prop} {Q : Exit → Act → World → Prop} {E : Prop} (hg : o.guard = none) (s x : Operand) (t ty : TypeId)
    (ho : o.op = .call { callee := .builtin .append, args := #[s, x], argTypes := #[t, t] }) (hty : o.type = ty) (v1 v2 v : Value) (w' : World) (hr : (Builtin.append_ #[t, t] ty #[v1, v2]).run P w = .ok v w') (hs : a.eval s = v1) (hx : a.eval x = v2) (h : K (a.put o.dst v) w') :
    if Region.wanted o (yielded ops a.tmps) = true then Oper.wp P o a w K Q else E := by
  have hw : Region.wanted o (yielded ops a.tmps) = true := by simp [Region.wanted, hg]
  rw [if_pos hw]
  subst hty
  unfold Oper.wp execOp
  simp only [ho, resolve, invoke, builtin, Sem.run_bind, Sem.run_pure, Result.andThen_ok, List.map_toArray, List.map_cons, List.map_nil, hs, hx, hr]
  exact h
theorem sz_alloc (w : World) (o : Obj) : (w.alloc o).heap.size = w.heap.size + 1 := by simp

set_option maxHeartbeats 16000000 in
set_option maxRecDepth 100000 in
theorem tied_anyR (B : Nat) (P : List (Nat × Nat)) (aa ab : Option Addr) (ca cb : Nat) (x y : Nat) (w : World) (h : PrAt w B P (.slice aa P.length ca) (.slice ab P.length cb)) (hn : P.length ≤ 1000) (hB : B ≤ w.heap.size) :
    Calls Try.prog 89 #[.agg #[.slice aa P.length ca, .slice ab P.length cb], spV x, spV y] w fun e w' => ∃ g1 c1 g2 c2, e = .returned (.agg #[.slice (some ⟨g1, 0, none⟩) (P.length + 1) c1, .slice (some ⟨g2, 0, none⟩) (P.length + 1) c2]) ∧ PrAt w' B (P ++ [(x, y)]) (.slice (some ⟨g1, 0, none⟩) (P.length + 1) c1) (.slice (some ⟨g2, 0, none⟩) (P.length + 1) c2) ∧ Gr2 w w' (Value.slice aa P.length ca).ownBlock (Value.slice ab P.length cb).ownBlock ∧ (some g1 = (Value.slice aa P.length ca).ownBlock ∨ w.heap.size ≤ g1) ∧ (some g2 = (Value.slice ab P.length cb).ownBlock ∨ w.heap.size ≤ g2) := by
  have HL : Hid (∀ k, ((Value.slice aa P.length ca).ownBlock = some k ∨ (Value.slice ab P.length cb).ownBlock = some k) → k < w.heap.size) := fun k hk => hk.elim (fun h1 => (h.a.lt k h1).2) (fun h1 => (h.b.lt k h1).2)
  rw [spV_P x, spV_P y]
  obtain ⟨Y, hY⟩ : ∃ Y, Y = (((w.alloc (.cells #[.slice aa P.length ca, .slice ab P.length cb] 129)).alloc (.cells #[.int .i64 (spP x).1, .int .i64 (spP x).2] 120)).alloc (.cells #[.int .i64 (spP y).1, .int .i64 (spP y).2] 120)).alloc (.cells #[.slice none 0 0, .slice none 0 0] 129) := ⟨_, rfl⟩
  have HY : Hid (Y = (((w.alloc (.cells #[.slice aa P.length ca, .slice ab P.length cb] 129)).alloc (.cells #[.int .i64 (spP x).1, .int .i64 (spP x).2] 120)).alloc (.cells #[.int .i64 (spP y).1, .int .i64 (spP y).2] 120)).alloc (.cells #[.slice none 0 0, .slice none 0 0] 129)) := hY
  have hsY : Y.heap.size = w.heap.size + 4 := by rw [hY]; simp
  have hgY : w.grownBy Y none := by rw [hY]; exact grown_two (grown_two (grown_two (World.grownBy_alloc _ _ _) (World.grownBy_alloc _ _ _)) (World.grownBy_alloc _ _ _)) (World.grownBy_alloc _ _ _)
  have t3 : Y.heap[w.heap.size]? = some (.cells #[.slice aa P.length ca, .slice ab P.length cb] 129 (0, 0)) := by
    rw [hY, box_low _ _ (by simp only [sz_alloc]; omega), box_low _ _ (by simp only [sz_alloc]; omega), box_low _ _ (by simp)]; exact box_at _ _
  have t4 : Y.heap[w.heap.size + 1]? = some (.cells #[.int .i64 (spP x).1, .int .i64 (spP x).2] 120 (0, 0)) := by
    rw [hY, box_low _ _ (by simp only [sz_alloc]; omega), box_low _ _ (by simp)]
    have := box_at (w.alloc (.cells #[.slice aa P.length ca, .slice ab P.length cb] 129)) (.cells #[.int .i64 (spP x).1, .int .i64 (spP x).2] 120)
    simpa using this
  have t5 : Y.heap[w.heap.size + 1 + 1]? = some (.cells #[.int .i64 (spP y).1, .int .i64 (spP y).2] 120 (0, 0)) := by
    rw [hY, box_low _ _ (by simp)]
    have := box_at ((w.alloc (.cells #[.slice aa P.length ca, .slice ab P.length cb] 129)).alloc (.cells #[.int .i64 (spP x).1, .int .i64 (spP x).2] 120)) (.cells #[.int .i64 (spP y).1, .int .i64 (spP y).2] 120)
    simpa using this
  have t6 : Y.heap[w.heap.size + 1 + 1 + 1]? = some (.cells #[.slice none 0 0, .slice none 0 0] 129 (0, 0)) := by
    have := box_at (((w.alloc (.cells #[.slice aa P.length ca, .slice ab P.length cb] 129)).alloc (.cells #[.int .i64 (spP x).1, .int .i64 (spP x).2] 120)).alloc (.cells #[.int .i64 (spP y).1, .int .i64 (spP y).2] 120)) (.cells #[.slice none 0 0, .slice none 0 0] 129)
    rw [hY]
    simpa using this
  have hgD : w.grownBy Y.drew none := grown_two hgY (grown_below ((Below.refl _ _).drew) none)
  obtain ⟨b1, hb1⟩ : ∃ b1, b1 = Obj.cells #[.int .i64 (spP x).1, .int .i64 (spP x).2] 120 := ⟨_, rfl⟩
  obtain ⟨b2, hb2⟩ : ∃ b2, b2 = Obj.cells #[.int .i64 (spP y).1, .int .i64 (spP y).2] 120 := ⟨_, rfl⟩
  -- what holds of the boxes in every world to come
  have HBX : Hid (∀ W : World, (∀ k, w.heap.size ≤ k → k < w.heap.size + 4 → W.heap[k]? = Y.heap[k]?) → W.cell? ⟨w.heap.size, 0, none⟩ = some (.slice aa P.length ca) ∧ W.cell? ⟨w.heap.size, 1, none⟩ = some (.slice ab P.length cb) ∧ W.cell? ⟨w.heap.size + 1, 0, none⟩ = some (.int .i64 (spP x).1) ∧ W.cell? ⟨w.heap.size + 1, 1, none⟩ = some (.int .i64 (spP x).2) ∧ W.cell? ⟨w.heap.size + 1 + 1, 0, none⟩ = some (.int .i64 (spP y).1) ∧ W.cell? ⟨w.heap.size + 1 + 1, 1, none⟩ = some (.int .i64 (spP y).2) ∧ W.heap[w.heap.size + 1 + 1 + 1]? = some (.cells #[.slice none 0 0, .slice none 0 0] 129 (0, 0))) := fun W hW => by
    have q3 := (hW w.heap.size (by omega) (by omega)).trans t3
    have q4 := (hW (w.heap.size + 1) (by omega) (by omega)).trans t4
    have q5 := (hW (w.heap.size + 1 + 1) (by omega) (by omega)).trans t5
    have q6 := (hW (w.heap.size + 1 + 1 + 1) (by omega) (by omega)).trans t6
    exact ⟨block_cell q3 rfl, block_cell q3 rfl, block_cell q4 rfl, block_cell q4 rfl, block_cell q5 rfl, block_cell q5 rfl, q6⟩
  have far : ∀ {W W' : World} {r : Option Nat}, W.grownBy W' r → w.heap.size + 4 ≤ W.heap.size → (∀ k, r = some k → k < w.heap.size) → (∀ k, w.heap.size ≤ k → k < w.heap.size + 4 → W.heap[k]? = Y.heap[k]?) → ∀ k, w.heap.size ≤ k → k < w.heap.size + 4 → W'.heap[k]? = Y.heap[k]? := fun {W W' r} hg hs hr hW k h1 h2 => (hg.block k (by omega) (fun e => by have := hr k e.symm; omega)).trans (hW k h1 h2)
  have la : ∀ k, (Value.slice aa P.length ca).ownBlock = some k → k < w.heap.size := fun k hk => HL.out k (Or.inl hk)
  have lb : ∀ k, (Value.slice ab P.length cb).ownBlock = some k → k < w.heap.size := fun k hk => HL.out k (Or.inr hk)
  have ln : ∀ k, (none : Option Nat) = some k → k < w.heap.size := fun k hk => by cases hk
  have sD : w.heap.size + 4 ≤ Y.drew.heap.size := by show w.heap.size + 4 ≤ Y.heap.size; omega
  have fD : ∀ k, w.heap.size ≤ k → k < w.heap.size + 4 → Y.drew.heap[k]? = Y.heap[k]? := fun k _ _ => rfl
  -- the first order
  have i1 : w.grownBy (Y.drew.alloc b1) none := grown_two hgD (World.grownBy_alloc _ _ _)
  obtain ⟨g1, c1, Xa, r1, o1, gr1, at1⟩ := app_one h i1 hn hB x Y.heap.size (by rw [hb1]; exact box_at Y.drew _)
  have i2 : Xa.grownBy (Xa.alloc b2) none := World.grownBy_alloc _ _ _
  obtain ⟨g2, c2, Xb, r2, p2, gg, n1, n2, gq⟩ := app_two h i1 hn hB x y Xa.heap.size o1 gr1 at1 i2 (by rw [hb2]; exact box_at Xa _)
  have f1 := far gr1 (by rw [sz_alloc]; omega) la (far (World.grownBy_alloc Y.drew b1 none) sD ln fD)
  have sa : w.heap.size + 4 ≤ Xa.heap.size := Nat.le_trans (by rw [sz_alloc]; omega) gr1.size
  have fb0 := far (World.grownBy_alloc Xa b2 none) sa ln f1
  -- the second order
  have j1 : w.grownBy ((Y.drew.alloc b1).alloc b2) none := grown_two i1 (World.grownBy_alloc _ _ _)
  obtain ⟨g1', c1', Xa', r1', o1', gr1', at1'⟩ := app_one h j1 hn hB x Y.heap.size (by rw [box_low _ _ (by rw [sz_alloc]; exact Nat.lt_succ_self _), hb1]; exact box_at Y.drew _)
  have f1' := far gr1' (by rw [sz_alloc, sz_alloc]; omega) la (far (World.grownBy_alloc _ b2 none) (by rw [sz_alloc]; omega) ln (far (World.grownBy_alloc Y.drew b1 none) sD ln fD))
  obtain ⟨g2', c2', Xb', r2', p2', gg', n1', n2', gq'⟩ := app_two h j1 hn hB x y (Y.heap.size + 1) o1' gr1' at1' (World.grownBy.refl _ _) (by
    rw [gr1'.block (Y.heap.size + 1) (by rw [sz_alloc, sz_alloc]; show Y.heap.size + 1 < Y.heap.size + 1 + 1; omega) (fun e => by have := la _ e.symm; omega), hb2]
    have := box_at (Y.drew.alloc b1) (.cells #[.int .i64 (spP y).1, .int .i64 (spP y).2] 120)
    rw [sz_alloc] at this
    exact this)
  -- the third order
  have k1 : w.grownBy ((Y.drew.alloc b2).alloc b1) none := grown_two (grown_two hgD (World.grownBy_alloc _ _ _)) (World.grownBy_alloc _ _ _)
  obtain ⟨g1'', c1'', Xa'', r1'', o1'', gr1'', at1''⟩ := app_one h k1 hn hB x (Y.heap.size + 1) (by
    rw [hb1]
    have := box_at (Y.drew.alloc b2) (.cells #[.int .i64 (spP x).1, .int .i64 (spP x).2] 120)
    rw [sz_alloc] at this
    exact this)
  have f1'' := far gr1'' (by rw [sz_alloc, sz_alloc]; omega) la (far (World.grownBy_alloc _ b1 none) (by rw [sz_alloc]; omega) ln (far (World.grownBy_alloc Y.drew b2 none) sD ln fD))
  obtain ⟨g2'', c2'', Xb'', r2'', p2'', gg'', n1'', n2'', gq''⟩ := app_two h k1 hn hB x y Y.heap.size o1'' gr1'' at1'' (World.grownBy.refl _ _) (by
    rw [gr1''.block Y.heap.size (by rw [sz_alloc, sz_alloc]; show Y.heap.size < Y.heap.size + 1 + 1; omega) (fun e => by have := la _ e.symm; omega), box_low _ _ (by rw [sz_alloc]; exact Nat.lt_succ_self _), hb2]
    exact box_at Y.drew _)
  have sa' : w.heap.size + 4 ≤ Xa'.heap.size := Nat.le_trans (by rw [sz_alloc, sz_alloc]; omega) gr1'.size
  have sa'' : w.heap.size + 4 ≤ Xa''.heap.size := Nat.le_trans (by rw [sz_alloc, sz_alloc]; omega) gr1''.size
  have fb := far gq (by rw [sz_alloc]; omega) lb fb0
  have fb' := far gq' sa' lb f1'
  have fb'' := far gq'' sa'' lb f1''
  -- what is laid in the result's box at the end
  have HEND : Hid (∀ (W : World) (ga gb : Nat) (u v : Nat), (∀ k, w.heap.size ≤ k → k < w.heap.size + 4 → W.heap[k]? = Y.heap[k]?) → PrAt W B (P ++ [(x, y)]) (.slice (some ⟨ga, 0, none⟩) (P.length + 1) u) (.slice (some ⟨gb, 0, none⟩) (P.length + 1) v) → Gr2 w W (Value.slice aa P.length ca).ownBlock (Value.slice ab P.length cb).ownBlock → (some ga = (Value.slice aa P.length ca).ownBlock ∨ w.heap.size ≤ ga) → (some gb = (Value.slice ab P.length cb).ownBlock ∨ w.heap.size ≤ gb) →
      ((W.setCell ⟨w.heap.size + 1 + 1 + 1, 0, none⟩ (.slice (some ⟨ga, 0, none⟩) (P.length + 1) u)).setCell ⟨w.heap.size + 1 + 1 + 1, 1, none⟩ (.slice (some ⟨gb, 0, none⟩) (P.length + 1) v)).heap[w.heap.size + 1 + 1 + 1]? = some (.cells #[.slice (some ⟨ga, 0, none⟩) (P.length + 1) u, .slice (some ⟨gb, 0, none⟩) (P.length + 1) v] 129 (0, 0)) ∧
      PrAt ((W.setCell ⟨w.heap.size + 1 + 1 + 1, 0, none⟩ (.slice (some ⟨ga, 0, none⟩) (P.length + 1) u)).setCell ⟨w.heap.size + 1 + 1 + 1, 1, none⟩ (.slice (some ⟨gb, 0, none⟩) (P.length + 1) v)) B (P ++ [(x, y)]) (.slice (some ⟨ga, 0, none⟩) (P.length + 1) u) (.slice (some ⟨gb, 0, none⟩) (P.length + 1) v) ∧
      Gr2 w ((W.setCell ⟨w.heap.size + 1 + 1 + 1, 0, none⟩ (.slice (some ⟨ga, 0, none⟩) (P.length + 1) u)).setCell ⟨w.heap.size + 1 + 1 + 1, 1, none⟩ (.slice (some ⟨gb, 0, none⟩) (P.length + 1) v)) (Value.slice aa P.length ca).ownBlock (Value.slice ab P.length cb).ownBlock) := fun W ga gb u v hW hP hG _ _ => by
    have q6 := (hW (w.heap.size + 1 + 1 + 1) (by omega) (by omega)).trans t6
    have hgr : W.grownBy ((W.setCell ⟨w.heap.size + 1 + 1 + 1, 0, none⟩ (.slice (some ⟨ga, 0, none⟩) (P.length + 1) u)).setCell ⟨w.heap.size + 1 + 1 + 1, 1, none⟩ (.slice (some ⟨gb, 0, none⟩) (P.length + 1) v)) (some (w.heap.size + 1 + 1 + 1)) := grown_two (set_grown _ _ _ _) (set_grown _ _ _ _)
    have ne6 : ∀ (G c : Nat) (xs : List Value), W.ownsRow B 120 2 (.slice (some ⟨G, 0, none⟩) (P.length + 1) c) (P ++ [(x, y)]).length xs → G ≠ w.heap.size + 1 + 1 + 1 := fun G c xs ho e => by
      rw [show (P ++ [(x, y)]).length = P.length + 1 by simp] at ho
      rcases ho.2 with ⟨h1, _⟩ | ⟨g', cap', cur, h1, _, hg, _⟩
      · cases h1
      · injection h1 with e1
        injection e1 with e1
        injection e1 with e1
        rw [← e1, e, q6] at hg
        injection hg with hg
        injection hg with _ h2
        exact absurd h2 (by decide)
    refine ⟨by rw [set_block (set_block q6)]; rfl, ⟨hP.a.kept hgr (Or.inr (fun e => ne6 ga u _ hP.a (Option.some.inj e))), hP.b.kept hgr (Or.inr (fun e => ne6 gb v _ hP.b (Option.some.inj e))), hP.ne⟩, ?_⟩
    exact ⟨hgr.os.trans hG.os, hgr.tape.trans hG.tape, hgr.output.trans hG.output, Nat.le_trans hG.size hgr.size, fun k hk h1 h2 => (hgr.block k (Nat.lt_of_lt_of_le hk hG.size) (fun e => by have := Option.some.inj e; omega)).trans (hG.block k hk h1 h2)⟩
  have E1 : Hid _ := HEND.out Xb g1 g2 c1 c2 fb p2 gg n1 n2
  have E2 : Hid _ := HEND.out Xb' g1' g2' c1' c2' fb' p2' gg' n1' n2'
  have E3 : Hid _ := HEND.out Xb'' g1'' g2'' c1'' c2'' fb'' p2'' gg'' n1'' n2''
  have HN1 : Hid ((some g1 = (Value.slice aa P.length ca).ownBlock ∨ w.heap.size ≤ g1) ∧ (some g2 = (Value.slice ab P.length cb).ownBlock ∨ w.heap.size ≤ g2)) := ⟨n1, n2⟩
  have HN2 : Hid ((some g1' = (Value.slice aa P.length ca).ownBlock ∨ w.heap.size ≤ g1') ∧ (some g2' = (Value.slice ab P.length cb).ownBlock ∨ w.heap.size ≤ g2')) := ⟨n1', n2'⟩
  have HN3 : Hid ((some g1'' = (Value.slice aa P.length ca).ownBlock ∨ w.heap.size ≤ g1'') ∧ (some g2'' = (Value.slice ab P.length cb).ownBlock ∨ w.heap.size ≤ g2'')) := ⟨n1'', n2''⟩
  have SB : Hid (∀ W : World, (∀ k, w.heap.size ≤ k → k < w.heap.size + 4 → W.heap[k]? = Y.heap[k]?) → W.cell? ⟨w.heap.size, 0, none⟩ = some (.slice aa P.length ca) ∧ W.cell? ⟨w.heap.size, 1, none⟩ = some (.slice ab P.length cb) ∧ W.cell? ⟨w.heap.size + 1, 0, none⟩ = some (.int .i64 (spP x).1) ∧ W.cell? ⟨w.heap.size + 1, 1, none⟩ = some (.int .i64 (spP x).2) ∧ W.cell? ⟨w.heap.size + 1 + 1, 0, none⟩ = some (.int .i64 (spP y).1) ∧ W.cell? ⟨w.heap.size + 1 + 1, 1, none⟩ = some (.int .i64 (spP y).2)) := fun W hW => by
    obtain ⟨e0, e1, e2, e3, e4, e5, -⟩ := HBX.out W hW
    exact ⟨e0, e1, e2, e3, e4, e5⟩
  have SE : Hid (∀ (W : World) (u v : Value), (∀ k, w.heap.size ≤ k → k < w.heap.size + 4 → W.heap[k]? = Y.heap[k]?) → (fun W : World => W.cell? ⟨w.heap.size, 0, none⟩ = some (.slice aa P.length ca) ∧ W.cell? ⟨w.heap.size, 1, none⟩ = some (.slice ab P.length cb) ∧ W.cell? ⟨w.heap.size + 1, 0, none⟩ = some (.int .i64 (spP x).1) ∧ W.cell? ⟨w.heap.size + 1, 1, none⟩ = some (.int .i64 (spP x).2) ∧ W.cell? ⟨w.heap.size + 1 + 1, 0, none⟩ = some (.int .i64 (spP y).1) ∧ W.cell? ⟨w.heap.size + 1 + 1, 1, none⟩ = some (.int .i64 (spP y).2)) ((W.setCell ⟨w.heap.size + 1 + 1 + 1, 0, none⟩ u).setCell ⟨w.heap.size + 1 + 1 + 1, 1, none⟩ v)) := fun W u v hW => by
    obtain ⟨e0, e1, e2, e3, e4, e5, -⟩ := HBX.out W hW
    have hk : ∀ k o : Nat, k < w.heap.size + 3 → ((W.setCell ⟨w.heap.size + 1 + 1 + 1, 0, none⟩ u).setCell ⟨w.heap.size + 1 + 1 + 1, 1, none⟩ v).cell? ⟨k, o, none⟩ = W.cell? ⟨k, o, none⟩ := fun k o hk => by
      unfold World.cell?
      rw [RowKit.Below.heap_setCell _ _ _ _ (show k ≠ w.heap.size + 1 + 1 + 1 by omega), RowKit.Below.heap_setCell _ _ _ _ (show k ≠ w.heap.size + 1 + 1 + 1 by omega)]
    exact ⟨(hk _ _ (by omega)).trans e0, (hk _ _ (by omega)).trans e1, (hk _ _ (by omega)).trans e2, (hk _ _ (by omega)).trans e3, (hk _ _ (by omega)).trans e4, (hk _ _ (by omega)).trans e5⟩
  have hD1 := far (World.grownBy_alloc Y.drew b1 none) sD ln fD
  have hD2 := far (World.grownBy_alloc Y.drew b2 none) sD ln fD
  have hD12 := far (World.grownBy_alloc (Y.drew.alloc b1) b2 none) (by rw [sz_alloc]; omega) ln hD1
  have hD21 := far (World.grownBy_alloc (Y.drew.alloc b2) b1 none) (by rw [sz_alloc]; omega) ln hD2
  obtain ⟨-, -, -, -, -, -, z⟩ := HBX.out Xb fb
  obtain ⟨-, -, -, -, -, -, z'⟩ := HBX.out Xb' fb'
  obtain ⟨-, -, -, -, -, -, z''⟩ := HBX.out Xb'' fb''
  have z0 : Xb.cell? ⟨w.heap.size + 1 + 1 + 1, 0, none⟩ = some (.slice none 0 0) := block_cell z rfl
  have z1 : Xb.cell? ⟨w.heap.size + 1 + 1 + 1, 1, none⟩ = some (.slice none 0 0) := block_cell z rfl
  have z2 : Xb.frozen? ⟨w.heap.size + 1 + 1 + 1, 0, none⟩ = false := froz z
  have z3 : Xb.frozen? ⟨w.heap.size + 1 + 1 + 1, 1, none⟩ = false := froz z
  have z0' : Xb'.cell? ⟨w.heap.size + 1 + 1 + 1, 0, none⟩ = some (.slice none 0 0) := block_cell z' rfl
  have z1' : Xb'.cell? ⟨w.heap.size + 1 + 1 + 1, 1, none⟩ = some (.slice none 0 0) := block_cell z' rfl
  have z2' : Xb'.frozen? ⟨w.heap.size + 1 + 1 + 1, 0, none⟩ = false := froz z'
  have z3' : Xb'.frozen? ⟨w.heap.size + 1 + 1 + 1, 1, none⟩ = false := froz z'
  have z0'' : Xb''.cell? ⟨w.heap.size + 1 + 1 + 1, 0, none⟩ = some (.slice none 0 0) := block_cell z'' rfl
  have z1'' : Xb''.cell? ⟨w.heap.size + 1 + 1 + 1, 1, none⟩ = some (.slice none 0 0) := block_cell z'' rfl
  have z2'' : Xb''.frozen? ⟨w.heap.size + 1 + 1 + 1, 0, none⟩ = false := froz z''
  have z3'' : Xb''.frozen? ⟨w.heap.size + 1 + 1 + 1, 1, none⟩ = false := froz z''
  have hlb : w.heap.size + 1 + 1 + 1 < Xb.heap.size := (Array.getElem?_eq_some_iff.1 z).1
  have hlb' : w.heap.size + 1 + 1 + 1 < Xb'.heap.size := (Array.getElem?_eq_some_iff.1 z').1
  have hlb'' : w.heap.size + 1 + 1 + 1 < Xb''.heap.size := (Array.getElem?_eq_some_iff.1 z'').1
  subst hb1 hb2
  have F0 : Hid _ := SB.out Y.drew fD
  have F1 : Hid _ := SB.out _ hD1
  have F2 : Hid _ := SB.out _ hD2
  have F12 : Hid _ := SB.out _ hD12
  have F21 : Hid _ := SB.out _ hD21
  have Fa : Hid _ := SB.out _ f1
  have Fa' : Hid _ := SB.out _ f1'
  have Fa'' : Hid _ := SB.out _ f1''
  have Fab : Hid _ := SB.out _ fb0
  have Fb : Hid _ := SB.out _ fb
  have Fb' : Hid _ := SB.out _ fb'
  have Fb'' : Hid _ := SB.out _ fb''
  clear z z' z'' fb0 f1 f1' f1'' gq gq' gq'' gr1 gr1' gr1'' at1 at1' at1'' o1 o1' o1'' p2 p2' p2'' gg gg' gg'' n1 n2 n1' n2' n1'' n2'' i1 i2 j1 k1 t3 t4 t5 t6 hgY hgD fD sD far la lb ln h sa sa' sa'' hY hsY hD1 hD2 hD12 hD21
  go_enter Try.func89, Try.ntmps89
  go_wp2
  rw [← HY.out]
  refine wp_region_held_drew (S := fun W : World => W.cell? ⟨w.heap.size, 0, none⟩ = some (.slice aa P.length ca) ∧ W.cell? ⟨w.heap.size, 1, none⟩ = some (.slice ab P.length cb) ∧ W.cell? ⟨w.heap.size + 1, 0, none⟩ = some (.int .i64 (spP x).1) ∧ W.cell? ⟨w.heap.size + 1, 1, none⟩ = some (.int .i64 (spP x).2) ∧ W.cell? ⟨w.heap.size + 1 + 1, 0, none⟩ = some (.int .i64 (spP y).1) ∧ W.cell? ⟨w.heap.size + 1 + 1, 1, none⟩ = some (.int .i64 (spP y).2)) (by kernel_rfl) F0.out (fun hHeld => ?_)
  refine wpAnyH_take (i := 0) (v := ?vv0u1) rfl (by kernel_rfl) (by kernel_rfl) (by kernel_rfl) (fun _ _ _ h => h) (Or.inl ⟨by rfl, ?yy0u1⟩) (by assumption) ?rr0u1
  case yy0u1 => (intro w hSw; (try dsimp only at hSw); go_simp; (try with_reducible rfl))
  try simp only [Act.put]
  refine wpAnyH_take (i := 1) (v := ?vv1u2) rfl (by kernel_rfl) (by kernel_rfl) (by kernel_rfl) (fun _ _ _ h => h) (Or.inl ⟨by rfl, ?yy1u2⟩) (by assumption) ?rr1u2
  case yy1u2 => (intro w hSw; (try dsimp only at hSw); go_simp; (try with_reducible rfl))
  try simp only [Act.put]
  refine wpAnyH_take (i := 2) (v := ?vv2u3) rfl (by kernel_rfl) (by kernel_rfl) (by kernel_rfl) (fun _ _ _ h => h) (Or.inl ⟨by rfl, ?yy2u3⟩) (by assumption) ?rr2u3
  case yy2u3 => (intro w hSw; (try dsimp only at hSw); go_simp; (try with_reducible rfl))
  try simp only [Act.put]
  refine wpAnyH_take (i := 5) (v := ?vv5u4) rfl (by kernel_rfl) (by kernel_rfl) (by kernel_rfl) (fun _ _ _ h => h) (Or.inl ⟨by rfl, ?yy5u4⟩) (by assumption) ?rr5u4
  case yy5u4 => (intro w hSw; (try dsimp only at hSw); go_simp; (try with_reducible rfl))
  try simp only [Act.put]
  refine wpAnyH_take (i := 6) (v := ?vv6u5) rfl (by kernel_rfl) (by kernel_rfl) (by kernel_rfl) (fun _ _ _ h => h) (Or.inl ⟨by rfl, ?yy6u5⟩) (by assumption) ?rr6u5
  case yy6u5 => (intro w hSw; (try dsimp only at hSw); go_simp; (try with_reducible rfl))
  try simp only [Act.put]
  refine wpAnyH_take (i := 7) (v := ?vv7u6) rfl (by kernel_rfl) (by kernel_rfl) (by kernel_rfl) (fun _ _ _ h => h) (Or.inl ⟨by rfl, ?yy7u6⟩) (by assumption) ?rr7u6
  case yy7u6 => (intro w hSw; (try dsimp only at hSw); go_simp; (try with_reducible rfl))
  try simp only [Act.put]
  refine wpAnyH_ready (rs := [3, 8]) (by kernel_rfl) (by simp) ?_
  refine AllReadyH.cons rfl (fun K hK => ?_) (AllReadyH.cons rfl (fun K hK => ?_) AllReadyH.nil)
  · go_simp
    refine hK.out _ _ (F1.out) (fun hHeld => ?_)
    clear hK K
    try simp only [Act.put]
    refine wpAnyH_ready (rs := [4, 8]) (by kernel_rfl) (by simp) ?_
    refine AllReadyH.cons rfl (fun K hK => ?_) (AllReadyH.cons rfl (fun K hK => ?_) AllReadyH.nil)
    · refine step_app_run rfl (.tmp 8) (.tmp 10) 127 127 rfl rfl _ _ _ _ r1 (by simp [Act.eval]) (by simp [Act.eval]) ?_
      refine hK.out _ _ (Fa.out) (fun hHeld => ?_)
      clear hK K
      try simp only [Act.put]
      refine wpAnyH_ready (rs := [8]) (by kernel_rfl) (by simp) ?_
      refine AllReadyH.cons rfl (fun K hK => ?_) AllReadyH.nil
      go_simp
      refine hK.out _ _ (Fab.out) (fun hHeld => ?_)
      clear hK K
      try simp only [Act.put]
      refine wpAnyH_ready (rs := [9]) (by kernel_rfl) (by simp) ?_
      refine AllReadyH.cons rfl (fun K hK => ?_) AllReadyH.nil
      refine step_app_run rfl (.tmp 13) (.tmp 15) 127 127 rfl rfl _ _ _ _ r2 (by simp [Act.eval]) (by simp [Act.eval]) ?_
      refine hK.out _ _ (Fb.out) (fun hHeld => ?_)
      clear hK K
      try simp only [Act.put]
      refine wpAnyH_take (i := 10) (v := ?vv10u7) rfl (by kernel_rfl) (by kernel_rfl) (by kernel_rfl) (fun _ _ _ h => h) (Or.inl ⟨by rfl, ?yy10u7⟩) (by assumption) ?rr10u7
      case yy10u7 => (intro w hSw; (try dsimp only at hSw); go_simp; (try with_reducible rfl))
      try simp only [Act.put]
      refine wpAnyH_ready (rs := [11]) (by kernel_rfl) (by simp) ?_
      refine AllReadyH.cons rfl (fun K hK => ?_) AllReadyH.nil
      go_simp
      refine hK.out _ _ (SE.out _ _ _ fb) (fun hHeld => ?_)
      clear hK K
      try simp only [Act.put]
      refine wpAnyH_done (by kernel_rfl) ?_ _
      go_wp2
      have q0 : ((Xb.setCell ⟨w.heap.size + 1 + 1 + 1, 0, none⟩ (.slice (some ⟨g1, 0, none⟩) (P.length + 1) c1)).setCell ⟨w.heap.size + 1 + 1 + 1, 1, none⟩ (.slice (some ⟨g2, 0, none⟩) (P.length + 1) c2)).cell? ⟨w.heap.size + 1 + 1 + 1, 0, none⟩ = some (.slice (some ⟨g1, 0, none⟩) (P.length + 1) c1) := block_cell E1.out.1 rfl
      have q1 : ((Xb.setCell ⟨w.heap.size + 1 + 1 + 1, 0, none⟩ (.slice (some ⟨g1, 0, none⟩) (P.length + 1) c1)).setCell ⟨w.heap.size + 1 + 1 + 1, 1, none⟩ (.slice (some ⟨g2, 0, none⟩) (P.length + 1) c2)).cell? ⟨w.heap.size + 1 + 1 + 1, 1, none⟩ = some (.slice (some ⟨g2, 0, none⟩) (P.length + 1) c2) := block_cell E1.out.1 rfl
      exact bodyPost_ret (v := .agg #[.slice (some ⟨g1, 0, none⟩) (P.length + 1) c1, .slice (some ⟨g2, 0, none⟩) (P.length + 1) c2]) (by simp [results, Try.results89, go_sem, q0, q1]) rfl ⟨_, _, _, _, rfl, E1.out.2.1, E1.out.2.2, HN1.out⟩
    · go_simp
      refine hK.out _ _ (F12.out) (fun hHeld => ?_)
      clear hK K
      try simp only [Act.put]
      refine wpAnyH_ready (rs := [4]) (by kernel_rfl) (by simp) ?_
      refine AllReadyH.cons rfl (fun K hK => ?_) AllReadyH.nil
      refine step_app_run rfl (.tmp 8) (.tmp 10) 127 127 rfl rfl _ _ _ _ r1' (by simp [Act.eval]) (by simp [Act.eval]) ?_
      refine hK.out _ _ (Fa'.out) (fun hHeld => ?_)
      clear hK K
      try simp only [Act.put]
      refine wpAnyH_ready (rs := [9]) (by kernel_rfl) (by simp) ?_
      refine AllReadyH.cons rfl (fun K hK => ?_) AllReadyH.nil
      refine step_app_run rfl (.tmp 13) (.tmp 15) 127 127 rfl rfl _ _ _ _ r2' (by simp [Act.eval]) (by simp [Act.eval]) ?_
      refine hK.out _ _ (Fb'.out) (fun hHeld => ?_)
      clear hK K
      try simp only [Act.put]
      refine wpAnyH_take (i := 10) (v := ?vv10u8) rfl (by kernel_rfl) (by kernel_rfl) (by kernel_rfl) (fun _ _ _ h => h) (Or.inl ⟨by rfl, ?yy10u8⟩) (by assumption) ?rr10u8
      case yy10u8 => (intro w hSw; (try dsimp only at hSw); go_simp; (try with_reducible rfl))
      try simp only [Act.put]
      refine wpAnyH_ready (rs := [11]) (by kernel_rfl) (by simp) ?_
      refine AllReadyH.cons rfl (fun K hK => ?_) AllReadyH.nil
      go_simp
      refine hK.out _ _ (SE.out _ _ _ fb') (fun hHeld => ?_)
      clear hK K
      try simp only [Act.put]
      refine wpAnyH_done (by kernel_rfl) ?_ _
      go_wp2
      have q0 : ((Xb'.setCell ⟨w.heap.size + 1 + 1 + 1, 0, none⟩ (.slice (some ⟨g1', 0, none⟩) (P.length + 1) c1')).setCell ⟨w.heap.size + 1 + 1 + 1, 1, none⟩ (.slice (some ⟨g2', 0, none⟩) (P.length + 1) c2')).cell? ⟨w.heap.size + 1 + 1 + 1, 0, none⟩ = some (.slice (some ⟨g1', 0, none⟩) (P.length + 1) c1') := block_cell E2.out.1 rfl
      have q1 : ((Xb'.setCell ⟨w.heap.size + 1 + 1 + 1, 0, none⟩ (.slice (some ⟨g1', 0, none⟩) (P.length + 1) c1')).setCell ⟨w.heap.size + 1 + 1 + 1, 1, none⟩ (.slice (some ⟨g2', 0, none⟩) (P.length + 1) c2')).cell? ⟨w.heap.size + 1 + 1 + 1, 1, none⟩ = some (.slice (some ⟨g2', 0, none⟩) (P.length + 1) c2') := block_cell E2.out.1 rfl
      exact bodyPost_ret (v := .agg #[.slice (some ⟨g1', 0, none⟩) (P.length + 1) c1', .slice (some ⟨g2', 0, none⟩) (P.length + 1) c2']) (by simp [results, Try.results89, go_sem, q0, q1]) rfl ⟨_, _, _, _, rfl, E2.out.2.1, E2.out.2.2, HN2.out⟩
  · go_simp
    refine hK.out _ _ (F2.out) (fun hHeld => ?_)
    clear hK K
    try simp only [Act.put]
    refine wpAnyH_ready (rs := [3]) (by kernel_rfl) (by simp) ?_
    refine AllReadyH.cons rfl (fun K hK => ?_) AllReadyH.nil
    go_simp
    refine hK.out _ _ (F21.out) (fun hHeld => ?_)
    clear hK K
    try simp only [Act.put]
    refine wpAnyH_ready (rs := [4]) (by kernel_rfl) (by simp) ?_
    refine AllReadyH.cons rfl (fun K hK => ?_) AllReadyH.nil
    refine step_app_run rfl (.tmp 8) (.tmp 10) 127 127 rfl rfl _ _ _ _ r1'' (by simp [Act.eval]) (by simp [Act.eval]) ?_
    refine hK.out _ _ (Fa''.out) (fun hHeld => ?_)
    clear hK K
    try simp only [Act.put]
    refine wpAnyH_ready (rs := [9]) (by kernel_rfl) (by simp) ?_
    refine AllReadyH.cons rfl (fun K hK => ?_) AllReadyH.nil
    refine step_app_run rfl (.tmp 13) (.tmp 15) 127 127 rfl rfl _ _ _ _ r2'' (by simp [Act.eval]) (by simp [Act.eval]) ?_
    refine hK.out _ _ (Fb''.out) (fun hHeld => ?_)
    clear hK K
    try simp only [Act.put]
    refine wpAnyH_take (i := 10) (v := ?vv10u9) rfl (by kernel_rfl) (by kernel_rfl) (by kernel_rfl) (fun _ _ _ h => h) (Or.inl ⟨by rfl, ?yy10u9⟩) (by assumption) ?rr10u9
    case yy10u9 => (intro w hSw; (try dsimp only at hSw); go_simp; (try with_reducible rfl))
    try simp only [Act.put]
    refine wpAnyH_ready (rs := [11]) (by kernel_rfl) (by simp) ?_
    refine AllReadyH.cons rfl (fun K hK => ?_) AllReadyH.nil
    go_simp
    refine hK.out _ _ (SE.out _ _ _ fb'') (fun hHeld => ?_)
    clear hK K
    try simp only [Act.put]
    refine wpAnyH_done (by kernel_rfl) ?_ _
    go_wp2
    have q0 : ((Xb''.setCell ⟨w.heap.size + 1 + 1 + 1, 0, none⟩ (.slice (some ⟨g1'', 0, none⟩) (P.length + 1) c1'')).setCell ⟨w.heap.size + 1 + 1 + 1, 1, none⟩ (.slice (some ⟨g2'', 0, none⟩) (P.length + 1) c2'')).cell? ⟨w.heap.size + 1 + 1 + 1, 0, none⟩ = some (.slice (some ⟨g1'', 0, none⟩) (P.length + 1) c1'') := block_cell E3.out.1 rfl
    have q1 : ((Xb''.setCell ⟨w.heap.size + 1 + 1 + 1, 0, none⟩ (.slice (some ⟨g1'', 0, none⟩) (P.length + 1) c1'')).setCell ⟨w.heap.size + 1 + 1 + 1, 1, none⟩ (.slice (some ⟨g2'', 0, none⟩) (P.length + 1) c2'')).cell? ⟨w.heap.size + 1 + 1 + 1, 1, none⟩ = some (.slice (some ⟨g2'', 0, none⟩) (P.length + 1) c2'') := block_cell E3.out.1 rfl
    exact bodyPost_ret (v := .agg #[.slice (some ⟨g1'', 0, none⟩) (P.length + 1) c1'', .slice (some ⟨g2'', 0, none⟩) (P.length + 1) c2'']) (by simp [results, Try.results89, go_sem, q0, q1]) rfl ⟨_, _, _, _, rfl, E3.out.2.1, E3.out.2.2, HN3.out⟩
end Go.Proofs.Ytphhlflcghffbaa
