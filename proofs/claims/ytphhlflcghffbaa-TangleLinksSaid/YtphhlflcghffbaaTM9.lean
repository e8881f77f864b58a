/- The walk of ref.LinkOf. -/
import Derived.Test.YtphhlflcghffbaaTM8
import Derived.Test.YtphhlflcghffbaaTG1
import Derived.Deep.Cut
namespace Go.Proofs.Ytphhlflcghffbaa
open Go.RowKit Go.Maps

set_option maxHeartbeats 16000000 in
set_option maxRecDepth 100000 in
theorem linkOf_any (a : Option Addr) (cap : Nat) (l : List Int) (n : Nat) (k : Int) (C : List Cr) (w : World) (hl : l.length ≤ 140737488355328) (hz : szTo l l.length = n) (hn : n ≤ 16) (hr : ∀ j, j < l.length → -16 ≤ l.getD j 0 ∧ l.getD j 0 ≤ 16) (h : RdAt w w.heap.size 1 (.slice a l.length cap) l.length (intsV l))
    (hW : ∀ (W : World) (gA gB cA cB : Nat), PrAt W (w.heap.size + 6) (rsP (rsL l l.length)) (.slice (some ⟨gA, 0, none⟩) (2 * n + 2) cA) (.slice (some ⟨gB, 0, none⟩) (2 * n + 2) cB) → Calls Try.prog 90 #[.agg #[.slice (some ⟨gA, 0, none⟩) (2 * n + 2) cA, .slice (some ⟨gB, 0, none⟩) (2 * n + 2) cB], .int .i64 (n : Nat)] W fun e w' => ∃ a2 c2, e = .returned (.agg #[.slice a2 n c2, .int .i64 k]) ∧ w'.ownsRow W.heap.size 105 5 (.slice a2 n c2) n (crossCells C) ∧ Below W.heap.size W w') :
    Calls Try.prog 39 #[.slice a l.length cap] w fun e w' => ∃ a2 c2, e = .returned (.agg #[.slice a2 n c2, .int .i64 k]) ∧ w'.ownsRow (w.heap.size + 1) 105 5 (.slice a2 n c2) n (crossCells C) ∧ Below w.heap.size w w' := by
  have HR : Hid (RdAt w w.heap.size 1 (.slice a l.length cap) l.length (intsV l)) := h
  have HRG : Hid (∀ j, j < l.length → -16 ≤ l.getD j 0 ∧ l.getD j 0 ≤ 16) := hr
  have HSM : Hid (∀ i, i ≤ l.length → szTo l i ≤ 16) := fun i hi => Nat.le_trans (szTo_up l i _ hi) (by omega)
  have HW : Hid (∀ (W : World) (gA gB cA cB : Nat), PrAt W (w.heap.size + 6) (rsP (rsL l l.length)) (.slice (some ⟨gA, 0, none⟩) (2 * n + 2) cA) (.slice (some ⟨gB, 0, none⟩) (2 * n + 2) cB) → Calls Try.prog 90 #[.agg #[.slice (some ⟨gA, 0, none⟩) (2 * n + 2) cA, .slice (some ⟨gB, 0, none⟩) (2 * n + 2) cB], .int .i64 (n : Nat)] W fun e w' => ∃ a2 c2, e = .returned (.agg #[.slice a2 n c2, .int .i64 k]) ∧ w'.ownsRow W.heap.size 105 5 (.slice a2 n c2) n (crossCells C) ∧ Below W.heap.size W w') := hW
  have HLN : Hid (∀ i, (rsL l i).P.length = 2 * szTo l i) := fun i => rsL_len l i
  have HZN : Hid (szTo l l.length = n) := hz
  obtain ⟨m, hM⟩ : ∃ m, l.length = m := ⟨_, rfl⟩
  have HM : Hid (l.length = m) := hM
  rw [hM] at hl ⊢
  obtain ⟨Y, hY⟩ : ∃ Y, Y = (((((w.alloc (.cells #[.slice none 0 0, .int .i64 0] 24)).alloc (.cells #[.slice none 0 0, .slice none 0 0] 129)).alloc (.cells #[.int .i64 (-1), .int .i64 0] 120)).alloc (.cells #[.int .i64 (-1), .int .i64 1] 120)).alloc (.cells #[.int .i64 (-1), .int .i64 2] 120)).alloc (.cells #[.int .i64 (-1), .int .i64 3] 120) := ⟨_, rfl⟩
  have HY : Hid (Y = (((((w.alloc (.cells #[.slice none 0 0, .int .i64 0] 24)).alloc (.cells #[.slice none 0 0, .slice none 0 0] 129)).alloc (.cells #[.int .i64 (-1), .int .i64 0] 120)).alloc (.cells #[.int .i64 (-1), .int .i64 1] 120)).alloc (.cells #[.int .i64 (-1), .int .i64 2] 120)).alloc (.cells #[.int .i64 (-1), .int .i64 3] 120)) := hY
  obtain ⟨-, hBY, y0, y1, y2, y3, y4, y5⟩ := six_boxes w _ _ _ _ _ _ _ _ _ _ _ _ Y hY
  have z2 : Y.heap[w.heap.size + 1 + 1]? = some (.cells #[.int .i64 (spP 0).1, .int .i64 (spP 0).2] 120 (0, 0)) := by rw [show spP 0 = (-1, 0) from rfl]; exact y2
  have z3 : Y.heap[w.heap.size + 1 + 1 + 1]? = some (.cells #[.int .i64 (spP 1).1, .int .i64 (spP 1).2] 120 (0, 0)) := by rw [show spP 1 = (-1, 1) from rfl]; exact y3
  have z4 : Y.heap[w.heap.size + 1 + 1 + 1 + 1]? = some (.cells #[.int .i64 (spP 2).1, .int .i64 (spP 2).2] 120 (0, 0)) := by rw [show spP 2 = (-1, 2) from rfl]; exact y4
  have z5 : Y.heap[w.heap.size + 1 + 1 + 1 + 1 + 1]? = some (.cells #[.int .i64 (spP 3).1, .int .i64 (spP 3).2] 120 (0, 0)) := by rw [show spP 3 = (-1, 3) from rfl]; exact y5
  have HK0 : Hid (LkS w Y w.heap.size (rsL l 0)) := (⟨hBY, none, none, 0, 0, ⟨y0, y1, z2, z3, z4, z5⟩, ⟨World.ownsRow_nil _ _ _ _, World.ownsRow_nil _ _ _ _, Or.inl rfl⟩⟩ : LkS w Y w.heap.size (rsL l 0))
  clear hW hz h hr hM hY hBY y0 y1 y2 y3 y4 y5 z2 z3 z4 z5
  go_enter Try.func39, Try.ntmps39
  go_wp2
  rw [← HY.out]
  clear HY
  go_loopw [8, 9] (fun v8 v9 wr => ∃ i s : Nat, i ≤ m ∧ s ≤ 16 ∧ v9 = .int .i64 (i : Nat) ∧ v8 = .int .i64 (s : Nat) ∧ Hid (szTo l i = s) ∧ Hid (LkS w wr w.heap.size (rsL l i))) (fun _ v9 _ => m - (intOf v9).toNat)
  case atStart => exact ⟨0, 0, Nat.zero_le _, Nat.zero_le _, rfl, rfl, rfl, HK0.out⟩
  case round =>
    clear HK0
    rename World => W1
    obtain ⟨i, s, him, hs16, rfl, rfl, hsz, hst⟩ := hrel
    by_cases hil : i < m
    · obtain ⟨ba, off, ea, hbw, hc⟩ := HR.out.intAt i (by rw [HM.out]; exact hil)
      have HC : Hid (∀ W, Below w.heap.size w W → W.cell? ⟨ba, off + i, none⟩ = some (.int .i64 (l.getD i 0)) ∧ ba < W.heap.size) := fun W hb => ⟨bcell hb hbw hc, Nat.lt_of_lt_of_le hbw hb.size⟩
      have hrg := HRG.out i (by rw [HM.out]; exact hil)
      have hs2 := HSM.out (i + 1) (by rw [HM.out]; exact hil)
      have HS1 : Hid (szTo l (i + 1) = s + (l.getD i 0).natAbs) := (by show szTo l i + _ = _; rw [hsz.out] : szTo l (i + 1) = s + (l.getD i 0).natAbs)
      rw [HS1.out] at hs2
      have HTW : Hid (∀ z, (l.getD i 0).natAbs = z → rsL l (i + 1) = rsR (rsL l i) s (decide (i % 2 = 0)) (decide (0 < l.getD i 0)) z) := fun z hz => by show rsR (rsL l i) (szTo l i) _ _ _ = _; rw [hsz.out, hz]
      have HLE : Hid (∀ r u j, (rsR (rsL l i) s r u j).P.length = 2 * (s + j)) := fun r u j => by rw [rsR_len, HLN.out i, hsz.out]; omega
      obtain ⟨x, hx⟩ : ∃ x, l.getD i 0 = x := ⟨_, rfl⟩
      rw [hx] at HC hrg hs2 HS1 HTW
      obtain ⟨z, hzz⟩ : ∃ z, x.natAbs = z := ⟨_, rfl⟩
      have HTZ : Hid (rsL l (i + 1) = rsR (rsL l i) s (decide (i % 2 = 0)) (decide (0 < x)) z) := HTW.out z hzz
      rw [hzz] at hs2 HS1
      have HAB : Hid (∀ W, Calls Try.prog 88 #[.int .i64 x] W fun e w' => e = .returned (.int .i64 (z : Nat)) ∧ W = w') := fun W => by rw [← hzz]; exact (absR_any x W (by omega) (by omega)).mono fun e w' h => ⟨h.1, h.2.symm⟩
      have HZ : Hid (x.natAbs = z) := hzz
      subst ea
      clear hx hzz hc HTW
      generalize rsL l i = r0 at hst HTZ HLE
      go_wp2
      go_loopw [8, 10] (fun v8 v10 wr => ∃ j t : Nat, j ≤ z ∧ t ≤ s + j ∧ s + j ≤ t ∧ v10 = .int .i64 (j : Nat) ∧ v8 = .int .i64 (t : Nat) ∧ Hid (LkS w wr w.heap.size (rsR r0 s (decide (i % 2 = 0)) (decide (0 < x)) j))) (fun _ v10 _ => z - (intOf v10).toNat)
      case atStart => exact ⟨0, s, Nat.zero_le _, by omega, by omega, rfl, rfl, hst.out⟩
      case round =>
        clear hst
        rename World => W2
        obtain ⟨j, t, hjz, ht1, ht2, rfl, rfl, hst⟩ := hrel
        obtain ⟨e0, hbW⟩ := HC.out W2 hst.out.1
        by_cases hjl : j < z
        · have HTS : Hid (rsR r0 s (decide (i % 2 = 0)) (decide (0 < x)) (j + 1) = rsStep (rsR r0 s (decide (i % 2 = 0)) (decide (0 < x)) j) t (decide (i % 2 = 0)) (decide (0 < x))) := (by show rsStep _ (s + j) _ _ = _; rw [show s + j = t by omega] : rsR r0 s (decide (i % 2 = 0)) (decide (0 < x)) (j + 1) = rsStep (rsR r0 s (decide (i % 2 = 0)) (decide (0 < x)) j) t (decide (i % 2 = 0)) (decide (0 < x)))
          have hlen := HLE.out (decide (i % 2 = 0)) (decide (0 < x)) j
          have er : (i : Int).tmod 2 = ((i % 2 : Nat) : Int) := rfl
          generalize rsR r0 s (decide (i % 2 = 0)) (decide (0 < x)) j = R at hst HTS hlen
          obtain ⟨hBL, aa, ab, ca, cb, hbx, hpr⟩ := hst.out
          obtain ⟨L, hL⟩ : ∃ L, R.P.length = L := ⟨_, rfl⟩
          have HL : Hid (R.P.length = L) := hL
          rw [hL] at hbx hpr hlen
          have HBX : Hid (Bx W2 w.heap.size (.slice aa L ca) (.slice ab L cb) R.ne R.sw R.se) := hbx
          have HPR : Hid (PrAt W2 (w.heap.size + 6) R.P (.slice aa L ca) (.slice ab L cb)) := hpr
          have HBL : Hid (Below w.heap.size w W2) := hBL
          have hs6 := hbx.size
          have ht16 : t < 16 := by omega
          have hlen2 : L ≤ 32 := by omega
          have HLT : Hid (L = 2 * t) := (by omega : L = 2 * t)
          have HRX : Hid (x.natAbs = z ∧ 0 < z) := (⟨HZ.out, by omega⟩ : x.natAbs = z ∧ 0 < z)
          clear hbx hpr hBL hL hst hlen
          by_cases hx0 : 0 < x
          · by_cases hi0 : i % 2 = 0
            · have hdx : decide (0 < x) = true := by simp; omega
              have hdi : decide (i % 2 = 0) = true := by simp; omega
              have HTS2 : Hid (rsR r0 s (decide (i % 2 = 0)) (decide (0 < x)) (j + 1) = ⟨R.P ++ [(R.ne, cor t true 0)] ++ [(R.se, cor t true 2)], cor t true 1, R.sw, cor t true 3⟩) := (by have h2 := HTS.out; rw [hdx, hdi] at h2 ⊢; exact h2 : rsR r0 s (decide (i % 2 = 0)) (decide (0 < x)) (j + 1) = ⟨R.P ++ [(R.ne, cor t true 0)] ++ [(R.se, cor t true 2)], cor t true 1, R.sw, cor t true 3⟩)
              obtain ⟨q, hqq⟩ : ∃ q, i % 2 = q := ⟨_, rfl⟩
              rw [hqq] at er
              obtain rfl : q = 0 := by omega
              have hneg : ¬ x < 0 := by omega
              obtain ⟨V, hV⟩ : ∃ V, V = W2.alloc (.cells #[.int .i64 (t : Nat), .int .i64 0, .int .i64 (t : Nat), .int .i64 1, .int .i64 (t : Nat), .int .i64 2, .int .i64 (t : Nat), .int .i64 3] 120) := ⟨_, rfl⟩
              have HV : Hid (V = W2.alloc (.cells #[.int .i64 (t : Nat), .int .i64 0, .int .i64 (t : Nat), .int .i64 1, .int .i64 (t : Nat), .int .i64 2, .int .i64 (t : Nat), .int .i64 3] 120)) := hV
              have hgV : W2.grownBy V none := by rw [hV]; exact World.grownBy_alloc _ _ _
              have HVG : Hid (V.heap[W2.heap.size]? = some (.cells #[.int .i64 (t : Nat), .int .i64 0, .int .i64 (t : Nat), .int .i64 1, .int .i64 (t : Nat), .int .i64 2, .int .i64 (t : Nat), .int .i64 3] 120 (0, 0))) := (by rw [hV]; exact box_at _ _ : V.heap[W2.heap.size]? = some (.cells #[.int .i64 (t : Nat), .int .i64 0, .int .i64 (t : Nat), .int .i64 1, .int .i64 (t : Nat), .int .i64 2, .int .i64 (t : Nat), .int .i64 3] 120 (0, 0)))
              have hBV : Below W2.heap.size W2 V := ⟨hgV.os, hgV.tape, hgV.output, hgV.size, fun k hk => hgV.block k hk (by simp)⟩
              have HBV : Hid (Below w.heap.size w V) := HBL.out.trans (hBV.mono HBL.out.size)
              have HXV : Hid (Bx V w.heap.size (.slice aa L ca) (.slice ab L cb) R.ne R.sw R.se) := HBX.out.on (hBV.mono hs6)
              have HPV : Hid (PrAt V (w.heap.size + 6) R.P (.slice aa L ca) (.slice ab L cb)) := HPR.out.any hgV
              have HNA : Hid ((Value.slice aa L ca).ownBlock ≠ some (W2.heap.size) ∧ (Value.slice ab L cb).ownBlock ≠ some (W2.heap.size)) := (⟨fun e => by have := (HPR.out.a.lt _ e).2; omega, fun e => by have := (HPR.out.b.lt _ e).2; omega⟩ : (Value.slice aa L ca).ownBlock ≠ some (W2.heap.size) ∧ (Value.slice ab L cb).ownBlock ≠ some (W2.heap.size))
              have HS : Hid (∀ w' va vb, Bx w' w.heap.size va vb R.ne R.sw R.se → w'.heap[W2.heap.size]? = some (.cells #[.int .i64 (t : Nat), .int .i64 0, .int .i64 (t : Nat), .int .i64 1, .int .i64 (t : Nat), .int .i64 2, .int .i64 (t : Nat), .int .i64 3] 120 (0, 0)) → w'.cell? ⟨w.heap.size + 1 + 1 + 1, 0, none⟩ = some (.int .i64 (spP R.ne).1) ∧ w'.cell? ⟨w.heap.size + 1 + 1 + 1, 1, none⟩ = some (.int .i64 (spP R.ne).2) ∧ w'.cell? ⟨w.heap.size + 1 + 1 + 1 + 1 + 1, 0, none⟩ = some (.int .i64 (spP R.se).1) ∧ w'.cell? ⟨w.heap.size + 1 + 1 + 1 + 1 + 1, 1, none⟩ = some (.int .i64 (spP R.se).2) ∧ w'.cell? ⟨W2.heap.size, 0, none⟩ = some (.int .i64 (t : Nat)) ∧ w'.cell? ⟨W2.heap.size, 1, none⟩ = some (.int .i64 0) ∧ w'.cell? ⟨W2.heap.size, 2, none⟩ = some (.int .i64 (t : Nat)) ∧ w'.cell? ⟨W2.heap.size, 3, none⟩ = some (.int .i64 1)) := fun w' va vb hb hg => ⟨block_cell hb.n1 rfl, block_cell hb.n1 rfl, block_cell hb.n3 rfl, block_cell hb.n3 rfl, block_cell hg rfl, block_cell hg rfl, block_cell hg rfl, block_cell hg rfl⟩
              have HT1 : Hid (∀ W, PrAt W (w.heap.size + 6) R.P (.slice aa L ca) (.slice ab L cb) → Bx W w.heap.size (.slice aa L ca) (.slice ab L cb) R.ne R.sw R.se → W.heap[W2.heap.size]? = some (.cells #[.int .i64 (t : Nat), .int .i64 0, .int .i64 (t : Nat), .int .i64 1, .int .i64 (t : Nat), .int .i64 2, .int .i64 (t : Nat), .int .i64 3] 120 (0, 0)) → Calls Try.prog 89 #[.agg #[.slice aa L ca, .slice ab L cb], .agg #[.int .i64 (spP R.ne).1, .int .i64 (spP R.ne).2], .agg #[.int .i64 (t : Nat), .int .i64 0]] W fun e w' => ∃ g1 c1 g2 c2, e = .returned (.agg #[.slice (some ⟨g1, 0, none⟩) (L + 1) c1, .slice (some ⟨g2, 0, none⟩) (L + 1) c2]) ∧ PrAt w' (w.heap.size + 6) (R.P ++ [(R.ne, cor t true 0)]) (.slice (some ⟨g1, 0, none⟩) (L + 1) c1) (.slice (some ⟨g2, 0, none⟩) (L + 1) c2) ∧ Bx w' w.heap.size (.slice aa L ca) (.slice ab L cb) R.ne R.sw R.se ∧ w'.heap[W2.heap.size]? = some (.cells #[.int .i64 (t : Nat), .int .i64 0, .int .i64 (t : Nat), .int .i64 1, .int .i64 (t : Nat), .int .i64 2, .int .i64 (t : Nat), .int .i64 3] 120 (0, 0)) ∧ g1 ≠ W2.heap.size ∧ g2 ≠ W2.heap.size ∧ Below w.heap.size W w') := fun W h1 h2 h3 => by
                have h9 := tiedB w.heap.size (W2.heap.size) L R.P aa ab ca cb R.ne (cor t true 0) _ _ _ _ _ _ W h1 HL.out (by omega) h2 h3 HNA.out.1 HNA.out.2
                rw [spV_P R.ne, spV_cor] at h9
                exact h9
              have HT2 : Hid (∀ W ga gb ua ub, ga ≠ W2.heap.size → gb ≠ W2.heap.size → PrAt W (w.heap.size + 6) (R.P ++ [(R.ne, cor t true 0)]) (.slice (some ⟨ga, 0, none⟩) (L + 1) ua) (.slice (some ⟨gb, 0, none⟩) (L + 1) ub) → Bx W w.heap.size (.slice aa L ca) (.slice ab L cb) R.ne R.sw R.se → W.heap[W2.heap.size]? = some (.cells #[.int .i64 (t : Nat), .int .i64 0, .int .i64 (t : Nat), .int .i64 1, .int .i64 (t : Nat), .int .i64 2, .int .i64 (t : Nat), .int .i64 3] 120 (0, 0)) → Calls Try.prog 89 #[.agg #[.slice (some ⟨ga, 0, none⟩) (L + 1) ua, .slice (some ⟨gb, 0, none⟩) (L + 1) ub], .agg #[.int .i64 (spP R.se).1, .int .i64 (spP R.se).2], .agg #[.int .i64 (t : Nat), .int .i64 1]] W fun e w' => ∃ g1 c1 g2 c2, e = .returned (.agg #[.slice (some ⟨g1, 0, none⟩) (L + 1 + 1) c1, .slice (some ⟨g2, 0, none⟩) (L + 1 + 1) c2]) ∧ PrAt w' (w.heap.size + 6) (R.P ++ [(R.ne, cor t true 0)] ++ [(R.se, cor t true 2)]) (.slice (some ⟨g1, 0, none⟩) (L + 1 + 1) c1) (.slice (some ⟨g2, 0, none⟩) (L + 1 + 1) c2) ∧ Bx w' w.heap.size (.slice aa L ca) (.slice ab L cb) R.ne R.sw R.se ∧ w'.heap[W2.heap.size]? = some (.cells #[.int .i64 (t : Nat), .int .i64 0, .int .i64 (t : Nat), .int .i64 1, .int .i64 (t : Nat), .int .i64 2, .int .i64 (t : Nat), .int .i64 3] 120 (0, 0)) ∧ g1 ≠ W2.heap.size ∧ g2 ≠ W2.heap.size ∧ Below w.heap.size W w') := fun W ga gb ua ub n1 n2 h1 h2 h3 => by
                have h9 := tiedB w.heap.size (W2.heap.size) (L + 1) (R.P ++ [(R.ne, cor t true 0)]) _ _ ua ub R.se (cor t true 2) _ _ _ _ _ _ W h1 (by rw [List.length_append, HL.out]; rfl) (by omega) h2 h3 (fun e => n1 (Option.some.inj e)) (fun e => n2 (Option.some.inj e))
                rw [spV_P R.se, spV_cor] at h9
                exact h9
              have hlV : W2.heap.size < V.heap.size := (Array.getElem?_eq_some_iff.1 HVG.out).1
              have HDV : Hid (Bx V.drew w.heap.size (.slice aa L ca) (.slice ab L cb) R.ne R.sw R.se ∧ V.drew.heap[W2.heap.size]? = some (.cells #[.int .i64 (t : Nat), .int .i64 0, .int .i64 (t : Nat), .int .i64 1, .int .i64 (t : Nat), .int .i64 2, .int .i64 (t : Nat), .int .i64 3] 120 (0, 0))) := ⟨HXV.out.on ((Below.refl _ _).drew.mono HXV.out.size), HVG.out⟩
              have HPD : Hid (PrAt V.drew (w.heap.size + 6) R.P (.slice aa L ca) (.slice ab L cb)) := HPV.out.any (grown_below ((Below.refl _ _).drew) none)
              have HBD : Hid (Below w.heap.size w V.drew) := HBV.out.trans ((Below.refl _ _).drew.mono HBV.out.size)
              clear hV hgV hBV hdi hqq hs6
              go_upto_region 15 with (go_at_call 88; refine (HAB.out _).mono ?_; rintro e9 w9 ⟨rfl, rfl⟩)
              rw [← HV.out]
              clear e0 hbW HV
              have t0 : V.cell? ⟨w.heap.size + 1, 0, none⟩ = some (.slice aa L ca) := block_cell HXV.out.t rfl
              have t1 : V.cell? ⟨w.heap.size + 1, 1, none⟩ = some (.slice ab L cb) := block_cell HXV.out.t rfl
              have lt : w.heap.size + 1 < V.heap.size := by have := HXV.out.size; omega
              obtain ⟨p0, p1, p2, p3, p4, p5, p6, p7⟩ := HS.out V _ _ HXV.out HVG.out
              refine wp_region_held_drew (S := fun w' => w'.cell? ⟨w.heap.size + 1 + 1 + 1, 0, none⟩ = some (.int .i64 (spP R.ne).1) ∧ w'.cell? ⟨w.heap.size + 1 + 1 + 1, 1, none⟩ = some (.int .i64 (spP R.ne).2) ∧ w'.cell? ⟨w.heap.size + 1 + 1 + 1 + 1 + 1, 0, none⟩ = some (.int .i64 (spP R.se).1) ∧ w'.cell? ⟨w.heap.size + 1 + 1 + 1 + 1 + 1, 1, none⟩ = some (.int .i64 (spP R.se).2) ∧ w'.cell? ⟨W2.heap.size, 0, none⟩ = some (.int .i64 (t : Nat)) ∧ w'.cell? ⟨W2.heap.size, 1, none⟩ = some (.int .i64 0) ∧ w'.cell? ⟨W2.heap.size, 2, none⟩ = some (.int .i64 (t : Nat)) ∧ w'.cell? ⟨W2.heap.size, 3, none⟩ = some (.int .i64 1)) (by kernel_rfl) (HS.out _ _ _ HDV.out.1 HDV.out.2) (fun hHeld => ?_)
              refine wpAnyH_take (i := 1) (v := ?vv1u1) rfl (by kernel_rfl) (by kernel_rfl) (by kernel_rfl) (fun _ _ _ h => h) (Or.inl ⟨by rfl, ?yy1u1⟩) (by assumption) ?rr1u1
              case yy1u1 => (intro w hSw; (try dsimp only at hSw); go_simp; (try with_reducible rfl))
              try simp only [Act.put]
              refine wpAnyH_take (i := 2) (v := ?vv2u2) rfl (by kernel_rfl) (by kernel_rfl) (by kernel_rfl) (fun _ _ _ h => h) (Or.inl ⟨by rfl, ?yy2u2⟩) (by assumption) ?rr2u2
              case yy2u2 => (intro w hSw; (try dsimp only at hSw); go_simp; (try with_reducible rfl))
              try simp only [Act.put]
              refine wpAnyH_take (i := 3) (v := ?vv3u3) rfl (by kernel_rfl) (by kernel_rfl) (by kernel_rfl) (fun _ _ _ h => h) (Or.inl ⟨by rfl, ?yy3u3⟩) (by assumption) ?rr3u3
              case yy3u3 => (intro w hSw; (try dsimp only at hSw); go_simp; (try with_reducible rfl))
              try simp only [Act.put]
              refine wpAnyH_take (i := 4) (v := ?vv4u4) rfl (by kernel_rfl) (by kernel_rfl) (by kernel_rfl) (fun _ _ _ h => h) (Or.inl ⟨by rfl, ?yy4u4⟩) (by assumption) ?rr4u4
              case yy4u4 => (intro w hSw; (try dsimp only at hSw); go_simp; (try with_reducible rfl))
              try simp only [Act.put]
              refine wpAnyH_take (i := 6) (v := ?vv6u5) rfl (by kernel_rfl) (by kernel_rfl) (by kernel_rfl) (fun _ _ _ h => h) (Or.inl ⟨by rfl, ?yy6u5⟩) (by assumption) ?rr6u5
              case yy6u5 => (intro w hSw; (try dsimp only at hSw); go_simp; (try with_reducible rfl))
              try simp only [Act.put]
              refine wpAnyH_take (i := 7) (v := ?vv7u6) rfl (by kernel_rfl) (by kernel_rfl) (by kernel_rfl) (fun _ _ _ h => h) (Or.inl ⟨by rfl, ?yy7u6⟩) (by assumption) ?rr7u6
              case yy7u6 => (intro w hSw; (try dsimp only at hSw); go_simp; (try with_reducible rfl))
              try simp only [Act.put]
              refine wpAnyH_take (i := 8) (v := ?vv8u7) rfl (by kernel_rfl) (by kernel_rfl) (by kernel_rfl) (fun _ _ _ h => h) (Or.inl ⟨by rfl, ?yy8u7⟩) (by assumption) ?rr8u7
              case yy8u7 => (intro w hSw; (try dsimp only at hSw); go_simp; (try with_reducible rfl))
              try simp only [Act.put]
              refine wpAnyH_take (i := 9) (v := ?vv9u8) rfl (by kernel_rfl) (by kernel_rfl) (by kernel_rfl) (fun _ _ _ h => h) (Or.inl ⟨by rfl, ?yy9u8⟩) (by assumption) ?rr9u8
              case yy9u8 => (intro w hSw; (try dsimp only at hSw); go_simp; (try with_reducible rfl))
              try simp only [Act.put]
              refine wpAnyH_ready (rs := [0]) (by kernel_rfl) (by simp) ?_
              refine AllReadyH.cons rfl (fun K hK => ?_) AllReadyH.nil
              go_simp
              refine hK.out _ _ (HS.out _ _ _ HDV.out.1 HDV.out.2) (fun hHeld => ?_)
              clear hK K
              try simp only [Act.put]
              refine wpAnyH_ready (rs := [5]) (by kernel_rfl) (by simp) ?_
              refine AllReadyH.cons rfl (fun K hK => ?_) AllReadyH.nil
              go_simp
              go_wp2_with (go_at_call 89; refine (HT1.out V.drew HPD.out HDV.out.1 HDV.out.2).mono ?_; rintro e9 w3 ⟨g3, c3, g6, c6, rfl, hp3, hx3, hg3, n3, n6, hb3⟩)
              have P3 : Hid (PrAt w3 (w.heap.size + 6) (R.P ++ [(R.ne, cor t true 0)]) (.slice (some ⟨g3, 0, none⟩) (L + 1) c3) (.slice (some ⟨g6, 0, none⟩) (L + 1) c6)) := hp3
              have H3 : Hid (Bx w3 w.heap.size (.slice aa L ca) (.slice ab L cb) R.ne R.sw R.se ∧ w3.heap[W2.heap.size]? = some (.cells #[.int .i64 (t : Nat), .int .i64 0, .int .i64 (t : Nat), .int .i64 1, .int .i64 (t : Nat), .int .i64 2, .int .i64 (t : Nat), .int .i64 3] 120 (0, 0))) := ⟨hx3, hg3⟩
              have N3 : Hid (g3 ≠ W2.heap.size ∧ g6 ≠ W2.heap.size) := ⟨n3, n6⟩
              have B3 : Hid (Below w.heap.size w w3) := HBD.out.trans hb3
              clear hp3 hx3 hg3 n3 n6 hb3
              refine hK.out _ _ (HS.out _ _ _ H3.out.1 H3.out.2) (fun hHeld => ?_)
              clear hK K
              try simp only [Act.put]
              refine wpAnyH_ready (rs := [10]) (by kernel_rfl) (by simp) ?_
              refine AllReadyH.cons rfl (fun K hK => ?_) AllReadyH.nil
              go_simp
              go_wp2_with (go_at_call 89; refine (HT2.out _ _ _ _ _ N3.out.1 N3.out.2 P3.out H3.out.1 H3.out.2).mono ?_; rintro e9 w4 ⟨g4, c4, g5, c5, rfl, hp4, hx4, hg4, n4, n5, hb4⟩)
              have P4 : Hid (PrAt w4 (w.heap.size + 6) (R.P ++ [(R.ne, cor t true 0)] ++ [(R.se, cor t true 2)]) (.slice (some ⟨g4, 0, none⟩) (L + 1 + 1) c4) (.slice (some ⟨g5, 0, none⟩) (L + 1 + 1) c5)) := hp4
              have H4 : Hid (Bx w4 w.heap.size (.slice aa L ca) (.slice ab L cb) R.ne R.sw R.se ∧ w4.heap[W2.heap.size]? = some (.cells #[.int .i64 (t : Nat), .int .i64 0, .int .i64 (t : Nat), .int .i64 1, .int .i64 (t : Nat), .int .i64 2, .int .i64 (t : Nat), .int .i64 3] 120 (0, 0))) := ⟨hx4, hg4⟩
              have B4 : Hid (Below w.heap.size w w4) := B3.out.trans hb4
              have HZS : Hid (Bx ((w4.setCell ⟨w.heap.size + 1, 0, none⟩ (.slice (some ⟨g4, 0, none⟩) (L + 1 + 1) c4)).setCell ⟨w.heap.size + 1, 1, none⟩ (.slice (some ⟨g5, 0, none⟩) (L + 1 + 1) c5)) w.heap.size (.slice (some ⟨g4, 0, none⟩) (L + 1 + 1) c4) (.slice (some ⟨g5, 0, none⟩) (L + 1 + 1) c5) R.ne R.sw R.se ∧ ((w4.setCell ⟨w.heap.size + 1, 0, none⟩ (.slice (some ⟨g4, 0, none⟩) (L + 1 + 1) c4)).setCell ⟨w.heap.size + 1, 1, none⟩ (.slice (some ⟨g5, 0, none⟩) (L + 1 + 1) c5)).heap[W2.heap.size]? = some (.cells #[.int .i64 (t : Nat), .int .i64 0, .int .i64 (t : Nat), .int .i64 1, .int .i64 (t : Nat), .int .i64 2, .int .i64 (t : Nat), .int .i64 3] 120 (0, 0))) := ⟨hx4.setT _ _, (st2_ne _ _ _ _ _ (by have := HBX.out.size; omega)).trans hg4⟩
              have r0 : w4.cell? ⟨w.heap.size + 1, 0, none⟩ = some (.slice aa L ca) := block_cell hx4.t rfl
              have r1 : w4.cell? ⟨w.heap.size + 1, 1, none⟩ = some (.slice ab L cb) := block_cell hx4.t rfl
              have f0 : w4.frozen? ⟨w.heap.size + 1, 0, none⟩ = false := froz hx4.t
              have f1 : w4.frozen? ⟨w.heap.size + 1, 1, none⟩ = false := froz hx4.t
              have l4 : w.heap.size + 1 < w4.heap.size := by have := hx4.size; omega
              clear hp4 hx4 hg4 n4 n5 hb4
              refine hK.out _ _ (HS.out _ _ _ H4.out.1 H4.out.2) (fun hHeld => ?_)
              clear hK K
              try simp only [Act.put]
              refine wpAnyH_ready (rs := [11]) (by kernel_rfl) (by simp) ?_
              refine AllReadyH.cons rfl (fun K hK => ?_) AllReadyH.nil
              go_simp
              refine hK.out _ _ (HS.out _ _ _ HZS.out.1 HZS.out.2) (fun hHeld => ?_)
              clear hK K
              try simp only [Act.put]
              refine wpAnyH_done (by kernel_rfl) ?_ _
              obtain ⟨Z, hZ⟩ : ∃ Z, Z = (w4.setCell ⟨w.heap.size + 1, 0, none⟩ (.slice (some ⟨g4, 0, none⟩) (L + 1 + 1) c4)).setCell ⟨w.heap.size + 1, 1, none⟩ (.slice (some ⟨g5, 0, none⟩) (L + 1 + 1) c5) := ⟨_, rfl⟩
              have ZP : Hid (PrAt Z (w.heap.size + 6) (R.P ++ [(R.ne, cor t true 0)] ++ [(R.se, cor t true 2)]) (.slice (some ⟨g4, 0, none⟩) (L + 1 + 1) c4) (.slice (some ⟨g5, 0, none⟩) (L + 1 + 1) c5)) := (by rw [hZ]; exact P4.out.set _ (by omega) _ _)
              have ZX : Hid (Bx Z w.heap.size (.slice (some ⟨g4, 0, none⟩) (L + 1 + 1) c4) (.slice (some ⟨g5, 0, none⟩) (L + 1 + 1) c5) R.ne R.sw R.se ∧ Z.heap[W2.heap.size]? = some (.cells #[.int .i64 (t : Nat), .int .i64 0, .int .i64 (t : Nat), .int .i64 1, .int .i64 (t : Nat), .int .i64 2, .int .i64 (t : Nat), .int .i64 3] 120 (0, 0))) := (by rw [hZ]; exact HZS.out)
              have ZB : Hid (Below w.heap.size w Z) := (by rw [hZ]; exact low_set B4.out B4.out.size (by omega) _ _)
              rw [← hZ]
              clear hZ r0 r1 f0 f1 l4 t0 t1 lt p0 p1 p2 p3 p4 p5 p6 p7 HZS H4 P4 B4 H3 P3 N3 B3 hlV HT1 HT2 HS HDV HPD HBD HXV HPV HNA HVG HBV
              have hs6 := ZX.out.1.size
              have HS2 : Hid (∀ w' : World, w'.heap[W2.heap.size]? = some (.cells #[.int .i64 (t : Nat), .int .i64 0, .int .i64 (t : Nat), .int .i64 1, .int .i64 (t : Nat), .int .i64 2, .int .i64 (t : Nat), .int .i64 3] 120 (0, 0)) → w'.cell? ⟨W2.heap.size, 6, none⟩ = some (.int .i64 (t : Nat)) ∧ w'.cell? ⟨W2.heap.size, 7, none⟩ = some (.int .i64 3) ∧ w'.cell? ⟨W2.heap.size, 4, none⟩ = some (.int .i64 (t : Nat)) ∧ w'.cell? ⟨W2.heap.size, 5, none⟩ = some (.int .i64 2)) := fun w' hg => ⟨block_cell hg rfl, block_cell hg rfl, block_cell hg rfl, block_cell hg rfl⟩
              obtain ⟨D, hD⟩ : ∃ D, D = Z.drew := ⟨_, rfl⟩
              have DP : Hid (PrAt D (w.heap.size + 6) (R.P ++ [(R.ne, cor t true 0)] ++ [(R.se, cor t true 2)]) (.slice (some ⟨g4, 0, none⟩) (L + 1 + 1) c4) (.slice (some ⟨g5, 0, none⟩) (L + 1 + 1) c5)) := (by rw [hD]; exact ZP.out.any (grown_below ((Below.refl _ _).drew) none))
              have DX : Hid (Bx D w.heap.size (.slice (some ⟨g4, 0, none⟩) (L + 1 + 1) c4) (.slice (some ⟨g5, 0, none⟩) (L + 1 + 1) c5) R.ne R.sw R.se) := (by rw [hD]; exact ZX.out.1.on ((Below.refl _ _).drew.mono hs6))
              have DG : Hid (D.heap[W2.heap.size]? = some (.cells #[.int .i64 (t : Nat), .int .i64 0, .int .i64 (t : Nat), .int .i64 1, .int .i64 (t : Nat), .int .i64 2, .int .i64 (t : Nat), .int .i64 3] 120 (0, 0))) := (by rw [hD]; exact ZX.out.2 : D.heap[W2.heap.size]? = some (.cells #[.int .i64 (t : Nat), .int .i64 0, .int .i64 (t : Nat), .int .i64 1, .int .i64 (t : Nat), .int .i64 2, .int .i64 (t : Nat), .int .i64 3] 120 (0, 0)))
              have DB : Hid (Below w.heap.size w D) := (by rw [hD]; exact ZB.out.trans ((Below.refl _ _).drew.mono ZB.out.size))
              have HDE : Hid (Z.drew = D) := hD.symm
              have HG1 : Hid (((D.setCell ⟨w.heap.size + 1 + 1 + 1, 0, none⟩ (.int .i64 (t : Nat))).setCell ⟨w.heap.size + 1 + 1 + 1, 1, none⟩ (.int .i64 3)).heap[W2.heap.size]? = some (.cells #[.int .i64 (t : Nat), .int .i64 0, .int .i64 (t : Nat), .int .i64 1, .int .i64 (t : Nat), .int .i64 2, .int .i64 (t : Nat), .int .i64 3] 120 (0, 0))) := ((st2_ne _ _ _ _ _ (by have := HBX.out.size; omega)).trans DG.out)
              have HG2 : Hid (((((D.setCell ⟨w.heap.size + 1 + 1 + 1, 0, none⟩ (.int .i64 (t : Nat))).setCell ⟨w.heap.size + 1 + 1 + 1, 1, none⟩ (.int .i64 3)).setCell ⟨w.heap.size + 1 + 1 + 1 + 1 + 1, 0, none⟩ (.int .i64 (t : Nat))).setCell ⟨w.heap.size + 1 + 1 + 1 + 1 + 1, 1, none⟩ (.int .i64 2)).heap[W2.heap.size]? = some (.cells #[.int .i64 (t : Nat), .int .i64 0, .int .i64 (t : Nat), .int .i64 1, .int .i64 (t : Nat), .int .i64 2, .int .i64 (t : Nat), .int .i64 3] 120 (0, 0))) := ((st2_ne _ _ _ _ _ (by have := HBX.out.size; omega)).trans HG1.out)
              have HFN : Hid (LkS w ((((D.setCell ⟨w.heap.size + 1 + 1 + 1, 0, none⟩ (.int .i64 (t : Nat))).setCell ⟨w.heap.size + 1 + 1 + 1, 1, none⟩ (.int .i64 3)).setCell ⟨w.heap.size + 1 + 1 + 1 + 1 + 1, 0, none⟩ (.int .i64 (t : Nat))).setCell ⟨w.heap.size + 1 + 1 + 1 + 1 + 1, 1, none⟩ (.int .i64 2)) w.heap.size (rsR r0 s (decide (i % 2 = 0)) (decide (0 < x)) (j + 1))) := (by
                rw [HTS2.out]
                have k1 := corP t true 1
                have k2 := corP t true 3
                have hb := (DX.out.set1 (cor t true 1)).set3 (cor t true 3)
                rw [k1, k2] at hb
                have hB2 := low_set (q := w.heap.size + 1 + 1 + 1 + 1 + 1) (low_set (q := w.heap.size + 1 + 1 + 1) DB.out DB.out.size (by omega) (.int .i64 (t : Nat)) (.int .i64 3)) (by simp; exact DB.out.size) (by omega) (.int .i64 (t : Nat)) (.int .i64 2)
                have hp2 := (DP.out.set (w.heap.size + 1 + 1 + 1) (by omega) (.int .i64 (t : Nat)) (.int .i64 3)).set (w.heap.size + 1 + 1 + 1 + 1 + 1) (by omega) (.int .i64 (t : Nat)) (.int .i64 2)
                have hLL : (R.P ++ [(R.ne, cor t true 0)] ++ [(R.se, cor t true 2)]).length = L + 1 + 1 := by rw [List.length_append, List.length_append, HL.out]; rfl
                refine ⟨hB2, some ⟨g4, 0, none⟩, some ⟨g5, 0, none⟩, c4, c5, ?_, ?_⟩
                · rw [hLL]; exact hb
                · rw [hLL]; exact hp2)
              have q0 : D.cell? ⟨w.heap.size + 1 + 1 + 1, 0, none⟩ = some (.int .i64 (spP R.ne).1) := block_cell DX.out.n1 rfl
              have q1' : D.cell? ⟨w.heap.size + 1 + 1 + 1, 1, none⟩ = some (.int .i64 (spP R.ne).2) := block_cell DX.out.n1 rfl
              have q2 : D.cell? ⟨w.heap.size + 1 + 1 + 1 + 1 + 1, 0, none⟩ = some (.int .i64 (spP R.se).1) := block_cell DX.out.n3 rfl
              have q3 : D.cell? ⟨w.heap.size + 1 + 1 + 1 + 1 + 1, 1, none⟩ = some (.int .i64 (spP R.se).2) := block_cell DX.out.n3 rfl
              have f0 : D.frozen? ⟨w.heap.size + 1 + 1 + 1, 0, none⟩ = false := froz DX.out.n1
              have f1 : D.frozen? ⟨w.heap.size + 1 + 1 + 1, 1, none⟩ = false := froz DX.out.n1
              have f2 : D.frozen? ⟨w.heap.size + 1 + 1 + 1 + 1 + 1, 0, none⟩ = false := froz DX.out.n3
              have f3 : D.frozen? ⟨w.heap.size + 1 + 1 + 1 + 1 + 1, 1, none⟩ = false := froz DX.out.n3
              have l1 : w.heap.size + 1 + 1 + 1 < D.heap.size := (Array.getElem?_eq_some_iff.1 DX.out.n1).1
              have l3 : w.heap.size + 1 + 1 + 1 + 1 + 1 < D.heap.size := (Array.getElem?_eq_some_iff.1 DX.out.n3).1
              have lg : W2.heap.size < D.heap.size := (Array.getElem?_eq_some_iff.1 DG.out).1
              clear hD hs6
              go_upto_region 16 with (fail)
              refine wp_region_held_drew (S := fun w' => w'.cell? ⟨W2.heap.size, 6, none⟩ = some (.int .i64 (t : Nat)) ∧ w'.cell? ⟨W2.heap.size, 7, none⟩ = some (.int .i64 3) ∧ w'.cell? ⟨W2.heap.size, 4, none⟩ = some (.int .i64 (t : Nat)) ∧ w'.cell? ⟨W2.heap.size, 5, none⟩ = some (.int .i64 2)) (by kernel_rfl) (HS2.out _ ZX.out.2) (fun hHeld => ?_)
              rw [HDE.out] at hHeld ⊢
              refine wpAnyH_take (i := 0) (v := ?vv0u9) rfl (by kernel_rfl) (by kernel_rfl) (by kernel_rfl) (fun _ _ _ h => h) (Or.inl ⟨by rfl, ?yy0u9⟩) (by assumption) ?rr0u9
              case yy0u9 => (intro w hSw; (try dsimp only at hSw); go_simp; (try with_reducible rfl))
              try simp only [Act.put]
              refine wpAnyH_take (i := 1) (v := ?vv1u10) rfl (by kernel_rfl) (by kernel_rfl) (by kernel_rfl) (fun _ _ _ h => h) (Or.inl ⟨by rfl, ?yy1u10⟩) (by assumption) ?rr1u10
              case yy1u10 => (intro w hSw; (try dsimp only at hSw); go_simp; (try with_reducible rfl))
              try simp only [Act.put]
              refine wpAnyH_take (i := 2) (v := ?vv2u11) rfl (by kernel_rfl) (by kernel_rfl) (by kernel_rfl) (fun _ _ _ h => h) (Or.inl ⟨by rfl, ?yy2u11⟩) (by assumption) ?rr2u11
              case yy2u11 => (intro w hSw; (try dsimp only at hSw); go_simp; (try with_reducible rfl))
              try simp only [Act.put]
              refine wpAnyH_take (i := 3) (v := ?vv3u12) rfl (by kernel_rfl) (by kernel_rfl) (by kernel_rfl) (fun _ _ _ h => h) (Or.inl ⟨by rfl, ?yy3u12⟩) (by assumption) ?rr3u12
              case yy3u12 => (intro w hSw; (try dsimp only at hSw); go_simp; (try with_reducible rfl))
              try simp only [Act.put]
              refine wpAnyH_take (i := 4) (v := ?vv4u13) rfl (by kernel_rfl) (by kernel_rfl) (by kernel_rfl) (fun _ _ _ h => h) (Or.inl ⟨by rfl, ?yy4u13⟩) (by assumption) ?rr4u13
              case yy4u13 => (intro w hSw; (try dsimp only at hSw); go_simp; (try with_reducible rfl))
              try simp only [Act.put]
              refine wpAnyH_take (i := 5) (v := ?vv5u14) rfl (by kernel_rfl) (by kernel_rfl) (by kernel_rfl) (fun _ _ _ h => h) (Or.inl ⟨by rfl, ?yy5u14⟩) (by assumption) ?rr5u14
              case yy5u14 => (intro w hSw; (try dsimp only at hSw); go_simp; (try with_reducible rfl))
              try simp only [Act.put]
              refine wpAnyH_ready (rs := [6]) (by kernel_rfl) (by simp) ?_
              refine AllReadyH.cons rfl (fun K hK => ?_) AllReadyH.nil
              go_simp
              refine hK.out _ _ (HS2.out _ HG1.out) (fun hHeld => ?_)
              clear hK K
              try simp only [Act.put]
              refine wpAnyH_ready (rs := [7]) (by kernel_rfl) (by simp) ?_
              refine AllReadyH.cons rfl (fun K hK => ?_) AllReadyH.nil
              go_simp
              refine hK.out _ _ (HS2.out _ HG2.out) (fun hHeld => ?_)
              clear hK K
              try simp only [Act.put]
              refine wpAnyH_done (by kernel_rfl) ?_ _
              clear q0 q1' q2 q3 f0 f1 f2 f3 l1 l3 lg hHeld
              go_wp2
              go_roundw
              case rel => exact ⟨j + 1, t + 1, by omega, by omega, by omega, by go_num, by go_num, HFN.out⟩
              case measure => simp only [intOf]; omega
            · have hdx : decide (0 < x) = true := by simp; omega
              have hdi : decide (i % 2 = 0) = false := by simp; omega
              have HTS2 : Hid (rsR r0 s (decide (i % 2 = 0)) (decide (0 < x)) (j + 1) = ⟨R.P ++ [(R.sw, cor t true 0)] ++ [(R.se, cor t true 1)], R.ne, cor t true 2, cor t true 3⟩) := (by have h2 := HTS.out; rw [hdx, hdi] at h2 ⊢; exact h2 : rsR r0 s (decide (i % 2 = 0)) (decide (0 < x)) (j + 1) = ⟨R.P ++ [(R.sw, cor t true 0)] ++ [(R.se, cor t true 1)], R.ne, cor t true 2, cor t true 3⟩)
              obtain ⟨q, hqq⟩ : ∃ q, i % 2 = q := ⟨_, rfl⟩
              rw [hqq] at er
              have hrz : ((q : Int) == 0) = false := by simp; omega
              have hneg : ¬ x < 0 := by omega
              obtain ⟨V, hV⟩ : ∃ V, V = W2.alloc (.cells #[.int .i64 (t : Nat), .int .i64 0, .int .i64 (t : Nat), .int .i64 1, .int .i64 (t : Nat), .int .i64 2, .int .i64 (t : Nat), .int .i64 3] 120) := ⟨_, rfl⟩
              have HV : Hid (V = W2.alloc (.cells #[.int .i64 (t : Nat), .int .i64 0, .int .i64 (t : Nat), .int .i64 1, .int .i64 (t : Nat), .int .i64 2, .int .i64 (t : Nat), .int .i64 3] 120)) := hV
              have hgV : W2.grownBy V none := by rw [hV]; exact World.grownBy_alloc _ _ _
              have HVG : Hid (V.heap[W2.heap.size]? = some (.cells #[.int .i64 (t : Nat), .int .i64 0, .int .i64 (t : Nat), .int .i64 1, .int .i64 (t : Nat), .int .i64 2, .int .i64 (t : Nat), .int .i64 3] 120 (0, 0))) := (by rw [hV]; exact box_at _ _ : V.heap[W2.heap.size]? = some (.cells #[.int .i64 (t : Nat), .int .i64 0, .int .i64 (t : Nat), .int .i64 1, .int .i64 (t : Nat), .int .i64 2, .int .i64 (t : Nat), .int .i64 3] 120 (0, 0)))
              have hBV : Below W2.heap.size W2 V := ⟨hgV.os, hgV.tape, hgV.output, hgV.size, fun k hk => hgV.block k hk (by simp)⟩
              have HBV : Hid (Below w.heap.size w V) := HBL.out.trans (hBV.mono HBL.out.size)
              have HXV : Hid (Bx V w.heap.size (.slice aa L ca) (.slice ab L cb) R.ne R.sw R.se) := HBX.out.on (hBV.mono hs6)
              have HPV : Hid (PrAt V (w.heap.size + 6) R.P (.slice aa L ca) (.slice ab L cb)) := HPR.out.any hgV
              have HNA : Hid ((Value.slice aa L ca).ownBlock ≠ some (W2.heap.size) ∧ (Value.slice ab L cb).ownBlock ≠ some (W2.heap.size)) := (⟨fun e => by have := (HPR.out.a.lt _ e).2; omega, fun e => by have := (HPR.out.b.lt _ e).2; omega⟩ : (Value.slice aa L ca).ownBlock ≠ some (W2.heap.size) ∧ (Value.slice ab L cb).ownBlock ≠ some (W2.heap.size))
              have HS : Hid (∀ w' va vb, Bx w' w.heap.size va vb R.ne R.sw R.se → w'.heap[W2.heap.size]? = some (.cells #[.int .i64 (t : Nat), .int .i64 0, .int .i64 (t : Nat), .int .i64 1, .int .i64 (t : Nat), .int .i64 2, .int .i64 (t : Nat), .int .i64 3] 120 (0, 0)) → w'.cell? ⟨w.heap.size + 1 + 1 + 1 + 1, 0, none⟩ = some (.int .i64 (spP R.sw).1) ∧ w'.cell? ⟨w.heap.size + 1 + 1 + 1 + 1, 1, none⟩ = some (.int .i64 (spP R.sw).2) ∧ w'.cell? ⟨w.heap.size + 1 + 1 + 1 + 1 + 1, 0, none⟩ = some (.int .i64 (spP R.se).1) ∧ w'.cell? ⟨w.heap.size + 1 + 1 + 1 + 1 + 1, 1, none⟩ = some (.int .i64 (spP R.se).2) ∧ w'.cell? ⟨W2.heap.size, 0, none⟩ = some (.int .i64 (t : Nat)) ∧ w'.cell? ⟨W2.heap.size, 1, none⟩ = some (.int .i64 0) ∧ w'.cell? ⟨W2.heap.size, 6, none⟩ = some (.int .i64 (t : Nat)) ∧ w'.cell? ⟨W2.heap.size, 7, none⟩ = some (.int .i64 3)) := fun w' va vb hb hg => ⟨block_cell hb.n2 rfl, block_cell hb.n2 rfl, block_cell hb.n3 rfl, block_cell hb.n3 rfl, block_cell hg rfl, block_cell hg rfl, block_cell hg rfl, block_cell hg rfl⟩
              have HT1 : Hid (∀ W, PrAt W (w.heap.size + 6) R.P (.slice aa L ca) (.slice ab L cb) → Bx W w.heap.size (.slice aa L ca) (.slice ab L cb) R.ne R.sw R.se → W.heap[W2.heap.size]? = some (.cells #[.int .i64 (t : Nat), .int .i64 0, .int .i64 (t : Nat), .int .i64 1, .int .i64 (t : Nat), .int .i64 2, .int .i64 (t : Nat), .int .i64 3] 120 (0, 0)) → Calls Try.prog 89 #[.agg #[.slice aa L ca, .slice ab L cb], .agg #[.int .i64 (spP R.sw).1, .int .i64 (spP R.sw).2], .agg #[.int .i64 (t : Nat), .int .i64 0]] W fun e w' => ∃ g1 c1 g2 c2, e = .returned (.agg #[.slice (some ⟨g1, 0, none⟩) (L + 1) c1, .slice (some ⟨g2, 0, none⟩) (L + 1) c2]) ∧ PrAt w' (w.heap.size + 6) (R.P ++ [(R.sw, cor t true 0)]) (.slice (some ⟨g1, 0, none⟩) (L + 1) c1) (.slice (some ⟨g2, 0, none⟩) (L + 1) c2) ∧ Bx w' w.heap.size (.slice aa L ca) (.slice ab L cb) R.ne R.sw R.se ∧ w'.heap[W2.heap.size]? = some (.cells #[.int .i64 (t : Nat), .int .i64 0, .int .i64 (t : Nat), .int .i64 1, .int .i64 (t : Nat), .int .i64 2, .int .i64 (t : Nat), .int .i64 3] 120 (0, 0)) ∧ g1 ≠ W2.heap.size ∧ g2 ≠ W2.heap.size ∧ Below w.heap.size W w') := fun W h1 h2 h3 => by
                have h9 := tiedB w.heap.size (W2.heap.size) L R.P aa ab ca cb R.sw (cor t true 0) _ _ _ _ _ _ W h1 HL.out (by omega) h2 h3 HNA.out.1 HNA.out.2
                rw [spV_P R.sw, spV_cor] at h9
                exact h9
              have HT2 : Hid (∀ W ga gb ua ub, ga ≠ W2.heap.size → gb ≠ W2.heap.size → PrAt W (w.heap.size + 6) (R.P ++ [(R.sw, cor t true 0)]) (.slice (some ⟨ga, 0, none⟩) (L + 1) ua) (.slice (some ⟨gb, 0, none⟩) (L + 1) ub) → Bx W w.heap.size (.slice aa L ca) (.slice ab L cb) R.ne R.sw R.se → W.heap[W2.heap.size]? = some (.cells #[.int .i64 (t : Nat), .int .i64 0, .int .i64 (t : Nat), .int .i64 1, .int .i64 (t : Nat), .int .i64 2, .int .i64 (t : Nat), .int .i64 3] 120 (0, 0)) → Calls Try.prog 89 #[.agg #[.slice (some ⟨ga, 0, none⟩) (L + 1) ua, .slice (some ⟨gb, 0, none⟩) (L + 1) ub], .agg #[.int .i64 (spP R.se).1, .int .i64 (spP R.se).2], .agg #[.int .i64 (t : Nat), .int .i64 3]] W fun e w' => ∃ g1 c1 g2 c2, e = .returned (.agg #[.slice (some ⟨g1, 0, none⟩) (L + 1 + 1) c1, .slice (some ⟨g2, 0, none⟩) (L + 1 + 1) c2]) ∧ PrAt w' (w.heap.size + 6) (R.P ++ [(R.sw, cor t true 0)] ++ [(R.se, cor t true 1)]) (.slice (some ⟨g1, 0, none⟩) (L + 1 + 1) c1) (.slice (some ⟨g2, 0, none⟩) (L + 1 + 1) c2) ∧ Bx w' w.heap.size (.slice aa L ca) (.slice ab L cb) R.ne R.sw R.se ∧ w'.heap[W2.heap.size]? = some (.cells #[.int .i64 (t : Nat), .int .i64 0, .int .i64 (t : Nat), .int .i64 1, .int .i64 (t : Nat), .int .i64 2, .int .i64 (t : Nat), .int .i64 3] 120 (0, 0)) ∧ g1 ≠ W2.heap.size ∧ g2 ≠ W2.heap.size ∧ Below w.heap.size W w') := fun W ga gb ua ub n1 n2 h1 h2 h3 => by
                have h9 := tiedB w.heap.size (W2.heap.size) (L + 1) (R.P ++ [(R.sw, cor t true 0)]) _ _ ua ub R.se (cor t true 1) _ _ _ _ _ _ W h1 (by rw [List.length_append, HL.out]; rfl) (by omega) h2 h3 (fun e => n1 (Option.some.inj e)) (fun e => n2 (Option.some.inj e))
                rw [spV_P R.se, spV_cor] at h9
                exact h9
              have hlV : W2.heap.size < V.heap.size := (Array.getElem?_eq_some_iff.1 HVG.out).1
              have HDV : Hid (Bx V.drew w.heap.size (.slice aa L ca) (.slice ab L cb) R.ne R.sw R.se ∧ V.drew.heap[W2.heap.size]? = some (.cells #[.int .i64 (t : Nat), .int .i64 0, .int .i64 (t : Nat), .int .i64 1, .int .i64 (t : Nat), .int .i64 2, .int .i64 (t : Nat), .int .i64 3] 120 (0, 0))) := ⟨HXV.out.on ((Below.refl _ _).drew.mono HXV.out.size), HVG.out⟩
              have HPD : Hid (PrAt V.drew (w.heap.size + 6) R.P (.slice aa L ca) (.slice ab L cb)) := HPV.out.any (grown_below ((Below.refl _ _).drew) none)
              have HBD : Hid (Below w.heap.size w V.drew) := HBV.out.trans ((Below.refl _ _).drew.mono HBV.out.size)
              clear hV hgV hBV hdi hqq hs6
              go_upto_region 17 with (go_at_call 88; refine (HAB.out _).mono ?_; rintro e9 w9 ⟨rfl, rfl⟩)
              rw [← HV.out]
              clear e0 hbW HV
              have t0 : V.cell? ⟨w.heap.size + 1, 0, none⟩ = some (.slice aa L ca) := block_cell HXV.out.t rfl
              have t1 : V.cell? ⟨w.heap.size + 1, 1, none⟩ = some (.slice ab L cb) := block_cell HXV.out.t rfl
              have lt : w.heap.size + 1 < V.heap.size := by have := HXV.out.size; omega
              obtain ⟨p0, p1, p2, p3, p4, p5, p6, p7⟩ := HS.out V _ _ HXV.out HVG.out
              refine wp_region_held_drew (S := fun w' => w'.cell? ⟨w.heap.size + 1 + 1 + 1 + 1, 0, none⟩ = some (.int .i64 (spP R.sw).1) ∧ w'.cell? ⟨w.heap.size + 1 + 1 + 1 + 1, 1, none⟩ = some (.int .i64 (spP R.sw).2) ∧ w'.cell? ⟨w.heap.size + 1 + 1 + 1 + 1 + 1, 0, none⟩ = some (.int .i64 (spP R.se).1) ∧ w'.cell? ⟨w.heap.size + 1 + 1 + 1 + 1 + 1, 1, none⟩ = some (.int .i64 (spP R.se).2) ∧ w'.cell? ⟨W2.heap.size, 0, none⟩ = some (.int .i64 (t : Nat)) ∧ w'.cell? ⟨W2.heap.size, 1, none⟩ = some (.int .i64 0) ∧ w'.cell? ⟨W2.heap.size, 6, none⟩ = some (.int .i64 (t : Nat)) ∧ w'.cell? ⟨W2.heap.size, 7, none⟩ = some (.int .i64 3)) (by kernel_rfl) (HS.out _ _ _ HDV.out.1 HDV.out.2) (fun hHeld => ?_)
              refine wpAnyH_take (i := 1) (v := ?vv1u15) rfl (by kernel_rfl) (by kernel_rfl) (by kernel_rfl) (fun _ _ _ h => h) (Or.inl ⟨by rfl, ?yy1u15⟩) (by assumption) ?rr1u15
              case yy1u15 => (intro w hSw; (try dsimp only at hSw); go_simp; (try with_reducible rfl))
              try simp only [Act.put]
              refine wpAnyH_take (i := 2) (v := ?vv2u16) rfl (by kernel_rfl) (by kernel_rfl) (by kernel_rfl) (fun _ _ _ h => h) (Or.inl ⟨by rfl, ?yy2u16⟩) (by assumption) ?rr2u16
              case yy2u16 => (intro w hSw; (try dsimp only at hSw); go_simp; (try with_reducible rfl))
              try simp only [Act.put]
              refine wpAnyH_take (i := 3) (v := ?vv3u17) rfl (by kernel_rfl) (by kernel_rfl) (by kernel_rfl) (fun _ _ _ h => h) (Or.inl ⟨by rfl, ?yy3u17⟩) (by assumption) ?rr3u17
              case yy3u17 => (intro w hSw; (try dsimp only at hSw); go_simp; (try with_reducible rfl))
              try simp only [Act.put]
              refine wpAnyH_take (i := 4) (v := ?vv4u18) rfl (by kernel_rfl) (by kernel_rfl) (by kernel_rfl) (fun _ _ _ h => h) (Or.inl ⟨by rfl, ?yy4u18⟩) (by assumption) ?rr4u18
              case yy4u18 => (intro w hSw; (try dsimp only at hSw); go_simp; (try with_reducible rfl))
              try simp only [Act.put]
              refine wpAnyH_take (i := 6) (v := ?vv6u19) rfl (by kernel_rfl) (by kernel_rfl) (by kernel_rfl) (fun _ _ _ h => h) (Or.inl ⟨by rfl, ?yy6u19⟩) (by assumption) ?rr6u19
              case yy6u19 => (intro w hSw; (try dsimp only at hSw); go_simp; (try with_reducible rfl))
              try simp only [Act.put]
              refine wpAnyH_take (i := 7) (v := ?vv7u20) rfl (by kernel_rfl) (by kernel_rfl) (by kernel_rfl) (fun _ _ _ h => h) (Or.inl ⟨by rfl, ?yy7u20⟩) (by assumption) ?rr7u20
              case yy7u20 => (intro w hSw; (try dsimp only at hSw); go_simp; (try with_reducible rfl))
              try simp only [Act.put]
              refine wpAnyH_take (i := 8) (v := ?vv8u21) rfl (by kernel_rfl) (by kernel_rfl) (by kernel_rfl) (fun _ _ _ h => h) (Or.inl ⟨by rfl, ?yy8u21⟩) (by assumption) ?rr8u21
              case yy8u21 => (intro w hSw; (try dsimp only at hSw); go_simp; (try with_reducible rfl))
              try simp only [Act.put]
              refine wpAnyH_take (i := 9) (v := ?vv9u22) rfl (by kernel_rfl) (by kernel_rfl) (by kernel_rfl) (fun _ _ _ h => h) (Or.inl ⟨by rfl, ?yy9u22⟩) (by assumption) ?rr9u22
              case yy9u22 => (intro w hSw; (try dsimp only at hSw); go_simp; (try with_reducible rfl))
              try simp only [Act.put]
              refine wpAnyH_ready (rs := [0]) (by kernel_rfl) (by simp) ?_
              refine AllReadyH.cons rfl (fun K hK => ?_) AllReadyH.nil
              go_simp
              refine hK.out _ _ (HS.out _ _ _ HDV.out.1 HDV.out.2) (fun hHeld => ?_)
              clear hK K
              try simp only [Act.put]
              refine wpAnyH_ready (rs := [5]) (by kernel_rfl) (by simp) ?_
              refine AllReadyH.cons rfl (fun K hK => ?_) AllReadyH.nil
              go_simp
              go_wp2_with (go_at_call 89; refine (HT1.out V.drew HPD.out HDV.out.1 HDV.out.2).mono ?_; rintro e9 w3 ⟨g3, c3, g6, c6, rfl, hp3, hx3, hg3, n3, n6, hb3⟩)
              have P3 : Hid (PrAt w3 (w.heap.size + 6) (R.P ++ [(R.sw, cor t true 0)]) (.slice (some ⟨g3, 0, none⟩) (L + 1) c3) (.slice (some ⟨g6, 0, none⟩) (L + 1) c6)) := hp3
              have H3 : Hid (Bx w3 w.heap.size (.slice aa L ca) (.slice ab L cb) R.ne R.sw R.se ∧ w3.heap[W2.heap.size]? = some (.cells #[.int .i64 (t : Nat), .int .i64 0, .int .i64 (t : Nat), .int .i64 1, .int .i64 (t : Nat), .int .i64 2, .int .i64 (t : Nat), .int .i64 3] 120 (0, 0))) := ⟨hx3, hg3⟩
              have N3 : Hid (g3 ≠ W2.heap.size ∧ g6 ≠ W2.heap.size) := ⟨n3, n6⟩
              have B3 : Hid (Below w.heap.size w w3) := HBD.out.trans hb3
              clear hp3 hx3 hg3 n3 n6 hb3
              refine hK.out _ _ (HS.out _ _ _ H3.out.1 H3.out.2) (fun hHeld => ?_)
              clear hK K
              try simp only [Act.put]
              refine wpAnyH_ready (rs := [10]) (by kernel_rfl) (by simp) ?_
              refine AllReadyH.cons rfl (fun K hK => ?_) AllReadyH.nil
              go_simp
              go_wp2_with (go_at_call 89; refine (HT2.out _ _ _ _ _ N3.out.1 N3.out.2 P3.out H3.out.1 H3.out.2).mono ?_; rintro e9 w4 ⟨g4, c4, g5, c5, rfl, hp4, hx4, hg4, n4, n5, hb4⟩)
              have P4 : Hid (PrAt w4 (w.heap.size + 6) (R.P ++ [(R.sw, cor t true 0)] ++ [(R.se, cor t true 1)]) (.slice (some ⟨g4, 0, none⟩) (L + 1 + 1) c4) (.slice (some ⟨g5, 0, none⟩) (L + 1 + 1) c5)) := hp4
              have H4 : Hid (Bx w4 w.heap.size (.slice aa L ca) (.slice ab L cb) R.ne R.sw R.se ∧ w4.heap[W2.heap.size]? = some (.cells #[.int .i64 (t : Nat), .int .i64 0, .int .i64 (t : Nat), .int .i64 1, .int .i64 (t : Nat), .int .i64 2, .int .i64 (t : Nat), .int .i64 3] 120 (0, 0))) := ⟨hx4, hg4⟩
              have B4 : Hid (Below w.heap.size w w4) := B3.out.trans hb4
              have HZS : Hid (Bx ((w4.setCell ⟨w.heap.size + 1, 0, none⟩ (.slice (some ⟨g4, 0, none⟩) (L + 1 + 1) c4)).setCell ⟨w.heap.size + 1, 1, none⟩ (.slice (some ⟨g5, 0, none⟩) (L + 1 + 1) c5)) w.heap.size (.slice (some ⟨g4, 0, none⟩) (L + 1 + 1) c4) (.slice (some ⟨g5, 0, none⟩) (L + 1 + 1) c5) R.ne R.sw R.se ∧ ((w4.setCell ⟨w.heap.size + 1, 0, none⟩ (.slice (some ⟨g4, 0, none⟩) (L + 1 + 1) c4)).setCell ⟨w.heap.size + 1, 1, none⟩ (.slice (some ⟨g5, 0, none⟩) (L + 1 + 1) c5)).heap[W2.heap.size]? = some (.cells #[.int .i64 (t : Nat), .int .i64 0, .int .i64 (t : Nat), .int .i64 1, .int .i64 (t : Nat), .int .i64 2, .int .i64 (t : Nat), .int .i64 3] 120 (0, 0))) := ⟨hx4.setT _ _, (st2_ne _ _ _ _ _ (by have := HBX.out.size; omega)).trans hg4⟩
              have r0 : w4.cell? ⟨w.heap.size + 1, 0, none⟩ = some (.slice aa L ca) := block_cell hx4.t rfl
              have r1 : w4.cell? ⟨w.heap.size + 1, 1, none⟩ = some (.slice ab L cb) := block_cell hx4.t rfl
              have f0 : w4.frozen? ⟨w.heap.size + 1, 0, none⟩ = false := froz hx4.t
              have f1 : w4.frozen? ⟨w.heap.size + 1, 1, none⟩ = false := froz hx4.t
              have l4 : w.heap.size + 1 < w4.heap.size := by have := hx4.size; omega
              clear hp4 hx4 hg4 n4 n5 hb4
              refine hK.out _ _ (HS.out _ _ _ H4.out.1 H4.out.2) (fun hHeld => ?_)
              clear hK K
              try simp only [Act.put]
              refine wpAnyH_ready (rs := [11]) (by kernel_rfl) (by simp) ?_
              refine AllReadyH.cons rfl (fun K hK => ?_) AllReadyH.nil
              go_simp
              refine hK.out _ _ (HS.out _ _ _ HZS.out.1 HZS.out.2) (fun hHeld => ?_)
              clear hK K
              try simp only [Act.put]
              refine wpAnyH_done (by kernel_rfl) ?_ _
              obtain ⟨Z, hZ⟩ : ∃ Z, Z = (w4.setCell ⟨w.heap.size + 1, 0, none⟩ (.slice (some ⟨g4, 0, none⟩) (L + 1 + 1) c4)).setCell ⟨w.heap.size + 1, 1, none⟩ (.slice (some ⟨g5, 0, none⟩) (L + 1 + 1) c5) := ⟨_, rfl⟩
              have ZP : Hid (PrAt Z (w.heap.size + 6) (R.P ++ [(R.sw, cor t true 0)] ++ [(R.se, cor t true 1)]) (.slice (some ⟨g4, 0, none⟩) (L + 1 + 1) c4) (.slice (some ⟨g5, 0, none⟩) (L + 1 + 1) c5)) := (by rw [hZ]; exact P4.out.set _ (by omega) _ _)
              have ZX : Hid (Bx Z w.heap.size (.slice (some ⟨g4, 0, none⟩) (L + 1 + 1) c4) (.slice (some ⟨g5, 0, none⟩) (L + 1 + 1) c5) R.ne R.sw R.se ∧ Z.heap[W2.heap.size]? = some (.cells #[.int .i64 (t : Nat), .int .i64 0, .int .i64 (t : Nat), .int .i64 1, .int .i64 (t : Nat), .int .i64 2, .int .i64 (t : Nat), .int .i64 3] 120 (0, 0))) := (by rw [hZ]; exact HZS.out)
              have ZB : Hid (Below w.heap.size w Z) := (by rw [hZ]; exact low_set B4.out B4.out.size (by omega) _ _)
              rw [← hZ]
              clear hZ r0 r1 f0 f1 l4 t0 t1 lt p0 p1 p2 p3 p4 p5 p6 p7 HZS H4 P4 B4 H3 P3 N3 B3 hlV HT1 HT2 HS HDV HPD HBD HXV HPV HNA HVG HBV
              have hs6 := ZX.out.1.size
              have HS2 : Hid (∀ w' : World, w'.heap[W2.heap.size]? = some (.cells #[.int .i64 (t : Nat), .int .i64 0, .int .i64 (t : Nat), .int .i64 1, .int .i64 (t : Nat), .int .i64 2, .int .i64 (t : Nat), .int .i64 3] 120 (0, 0)) → w'.cell? ⟨W2.heap.size, 2, none⟩ = some (.int .i64 (t : Nat)) ∧ w'.cell? ⟨W2.heap.size, 3, none⟩ = some (.int .i64 1) ∧ w'.cell? ⟨W2.heap.size, 4, none⟩ = some (.int .i64 (t : Nat)) ∧ w'.cell? ⟨W2.heap.size, 5, none⟩ = some (.int .i64 2)) := fun w' hg => ⟨block_cell hg rfl, block_cell hg rfl, block_cell hg rfl, block_cell hg rfl⟩
              obtain ⟨D, hD⟩ : ∃ D, D = Z.drew := ⟨_, rfl⟩
              have DP : Hid (PrAt D (w.heap.size + 6) (R.P ++ [(R.sw, cor t true 0)] ++ [(R.se, cor t true 1)]) (.slice (some ⟨g4, 0, none⟩) (L + 1 + 1) c4) (.slice (some ⟨g5, 0, none⟩) (L + 1 + 1) c5)) := (by rw [hD]; exact ZP.out.any (grown_below ((Below.refl _ _).drew) none))
              have DX : Hid (Bx D w.heap.size (.slice (some ⟨g4, 0, none⟩) (L + 1 + 1) c4) (.slice (some ⟨g5, 0, none⟩) (L + 1 + 1) c5) R.ne R.sw R.se) := (by rw [hD]; exact ZX.out.1.on ((Below.refl _ _).drew.mono hs6))
              have DG : Hid (D.heap[W2.heap.size]? = some (.cells #[.int .i64 (t : Nat), .int .i64 0, .int .i64 (t : Nat), .int .i64 1, .int .i64 (t : Nat), .int .i64 2, .int .i64 (t : Nat), .int .i64 3] 120 (0, 0))) := (by rw [hD]; exact ZX.out.2 : D.heap[W2.heap.size]? = some (.cells #[.int .i64 (t : Nat), .int .i64 0, .int .i64 (t : Nat), .int .i64 1, .int .i64 (t : Nat), .int .i64 2, .int .i64 (t : Nat), .int .i64 3] 120 (0, 0)))
              have DB : Hid (Below w.heap.size w D) := (by rw [hD]; exact ZB.out.trans ((Below.refl _ _).drew.mono ZB.out.size))
              have HDE : Hid (Z.drew = D) := hD.symm
              have HG1 : Hid (((D.setCell ⟨w.heap.size + 1 + 1 + 1 + 1, 0, none⟩ (.int .i64 (t : Nat))).setCell ⟨w.heap.size + 1 + 1 + 1 + 1, 1, none⟩ (.int .i64 1)).heap[W2.heap.size]? = some (.cells #[.int .i64 (t : Nat), .int .i64 0, .int .i64 (t : Nat), .int .i64 1, .int .i64 (t : Nat), .int .i64 2, .int .i64 (t : Nat), .int .i64 3] 120 (0, 0))) := ((st2_ne _ _ _ _ _ (by have := HBX.out.size; omega)).trans DG.out)
              have HG2 : Hid (((((D.setCell ⟨w.heap.size + 1 + 1 + 1 + 1, 0, none⟩ (.int .i64 (t : Nat))).setCell ⟨w.heap.size + 1 + 1 + 1 + 1, 1, none⟩ (.int .i64 1)).setCell ⟨w.heap.size + 1 + 1 + 1 + 1 + 1, 0, none⟩ (.int .i64 (t : Nat))).setCell ⟨w.heap.size + 1 + 1 + 1 + 1 + 1, 1, none⟩ (.int .i64 2)).heap[W2.heap.size]? = some (.cells #[.int .i64 (t : Nat), .int .i64 0, .int .i64 (t : Nat), .int .i64 1, .int .i64 (t : Nat), .int .i64 2, .int .i64 (t : Nat), .int .i64 3] 120 (0, 0))) := ((st2_ne _ _ _ _ _ (by have := HBX.out.size; omega)).trans HG1.out)
              have HFN : Hid (LkS w ((((D.setCell ⟨w.heap.size + 1 + 1 + 1 + 1, 0, none⟩ (.int .i64 (t : Nat))).setCell ⟨w.heap.size + 1 + 1 + 1 + 1, 1, none⟩ (.int .i64 1)).setCell ⟨w.heap.size + 1 + 1 + 1 + 1 + 1, 0, none⟩ (.int .i64 (t : Nat))).setCell ⟨w.heap.size + 1 + 1 + 1 + 1 + 1, 1, none⟩ (.int .i64 2)) w.heap.size (rsR r0 s (decide (i % 2 = 0)) (decide (0 < x)) (j + 1))) := (by
                rw [HTS2.out]
                have k1 := corP t true 2
                have k2 := corP t true 3
                have hb := (DX.out.set2 (cor t true 2)).set3 (cor t true 3)
                rw [k1, k2] at hb
                have hB2 := low_set (q := w.heap.size + 1 + 1 + 1 + 1 + 1) (low_set (q := w.heap.size + 1 + 1 + 1 + 1) DB.out DB.out.size (by omega) (.int .i64 (t : Nat)) (.int .i64 1)) (by simp; exact DB.out.size) (by omega) (.int .i64 (t : Nat)) (.int .i64 2)
                have hp2 := (DP.out.set (w.heap.size + 1 + 1 + 1 + 1) (by omega) (.int .i64 (t : Nat)) (.int .i64 1)).set (w.heap.size + 1 + 1 + 1 + 1 + 1) (by omega) (.int .i64 (t : Nat)) (.int .i64 2)
                have hLL : (R.P ++ [(R.sw, cor t true 0)] ++ [(R.se, cor t true 1)]).length = L + 1 + 1 := by rw [List.length_append, List.length_append, HL.out]; rfl
                refine ⟨hB2, some ⟨g4, 0, none⟩, some ⟨g5, 0, none⟩, c4, c5, ?_, ?_⟩
                · rw [hLL]; exact hb
                · rw [hLL]; exact hp2)
              have q0 : D.cell? ⟨w.heap.size + 1 + 1 + 1 + 1, 0, none⟩ = some (.int .i64 (spP R.sw).1) := block_cell DX.out.n2 rfl
              have q1' : D.cell? ⟨w.heap.size + 1 + 1 + 1 + 1, 1, none⟩ = some (.int .i64 (spP R.sw).2) := block_cell DX.out.n2 rfl
              have q2 : D.cell? ⟨w.heap.size + 1 + 1 + 1 + 1 + 1, 0, none⟩ = some (.int .i64 (spP R.se).1) := block_cell DX.out.n3 rfl
              have q3 : D.cell? ⟨w.heap.size + 1 + 1 + 1 + 1 + 1, 1, none⟩ = some (.int .i64 (spP R.se).2) := block_cell DX.out.n3 rfl
              have f0 : D.frozen? ⟨w.heap.size + 1 + 1 + 1 + 1, 0, none⟩ = false := froz DX.out.n2
              have f1 : D.frozen? ⟨w.heap.size + 1 + 1 + 1 + 1, 1, none⟩ = false := froz DX.out.n2
              have f2 : D.frozen? ⟨w.heap.size + 1 + 1 + 1 + 1 + 1, 0, none⟩ = false := froz DX.out.n3
              have f3 : D.frozen? ⟨w.heap.size + 1 + 1 + 1 + 1 + 1, 1, none⟩ = false := froz DX.out.n3
              have l1 : w.heap.size + 1 + 1 + 1 + 1 < D.heap.size := (Array.getElem?_eq_some_iff.1 DX.out.n2).1
              have l3 : w.heap.size + 1 + 1 + 1 + 1 + 1 < D.heap.size := (Array.getElem?_eq_some_iff.1 DX.out.n3).1
              have lg : W2.heap.size < D.heap.size := (Array.getElem?_eq_some_iff.1 DG.out).1
              clear hD hs6
              go_upto_region 18 with (fail)
              refine wp_region_held_drew (S := fun w' => w'.cell? ⟨W2.heap.size, 2, none⟩ = some (.int .i64 (t : Nat)) ∧ w'.cell? ⟨W2.heap.size, 3, none⟩ = some (.int .i64 1) ∧ w'.cell? ⟨W2.heap.size, 4, none⟩ = some (.int .i64 (t : Nat)) ∧ w'.cell? ⟨W2.heap.size, 5, none⟩ = some (.int .i64 2)) (by kernel_rfl) (HS2.out _ ZX.out.2) (fun hHeld => ?_)
              rw [HDE.out] at hHeld ⊢
              refine wpAnyH_take (i := 0) (v := ?vv0u23) rfl (by kernel_rfl) (by kernel_rfl) (by kernel_rfl) (fun _ _ _ h => h) (Or.inl ⟨by rfl, ?yy0u23⟩) (by assumption) ?rr0u23
              case yy0u23 => (intro w hSw; (try dsimp only at hSw); go_simp; (try with_reducible rfl))
              try simp only [Act.put]
              refine wpAnyH_take (i := 1) (v := ?vv1u24) rfl (by kernel_rfl) (by kernel_rfl) (by kernel_rfl) (fun _ _ _ h => h) (Or.inl ⟨by rfl, ?yy1u24⟩) (by assumption) ?rr1u24
              case yy1u24 => (intro w hSw; (try dsimp only at hSw); go_simp; (try with_reducible rfl))
              try simp only [Act.put]
              refine wpAnyH_take (i := 2) (v := ?vv2u25) rfl (by kernel_rfl) (by kernel_rfl) (by kernel_rfl) (fun _ _ _ h => h) (Or.inl ⟨by rfl, ?yy2u25⟩) (by assumption) ?rr2u25
              case yy2u25 => (intro w hSw; (try dsimp only at hSw); go_simp; (try with_reducible rfl))
              try simp only [Act.put]
              refine wpAnyH_take (i := 3) (v := ?vv3u26) rfl (by kernel_rfl) (by kernel_rfl) (by kernel_rfl) (fun _ _ _ h => h) (Or.inl ⟨by rfl, ?yy3u26⟩) (by assumption) ?rr3u26
              case yy3u26 => (intro w hSw; (try dsimp only at hSw); go_simp; (try with_reducible rfl))
              try simp only [Act.put]
              refine wpAnyH_take (i := 4) (v := ?vv4u27) rfl (by kernel_rfl) (by kernel_rfl) (by kernel_rfl) (fun _ _ _ h => h) (Or.inl ⟨by rfl, ?yy4u27⟩) (by assumption) ?rr4u27
              case yy4u27 => (intro w hSw; (try dsimp only at hSw); go_simp; (try with_reducible rfl))
              try simp only [Act.put]
              refine wpAnyH_take (i := 5) (v := ?vv5u28) rfl (by kernel_rfl) (by kernel_rfl) (by kernel_rfl) (fun _ _ _ h => h) (Or.inl ⟨by rfl, ?yy5u28⟩) (by assumption) ?rr5u28
              case yy5u28 => (intro w hSw; (try dsimp only at hSw); go_simp; (try with_reducible rfl))
              try simp only [Act.put]
              refine wpAnyH_ready (rs := [6]) (by kernel_rfl) (by simp) ?_
              refine AllReadyH.cons rfl (fun K hK => ?_) AllReadyH.nil
              go_simp
              refine hK.out _ _ (HS2.out _ HG1.out) (fun hHeld => ?_)
              clear hK K
              try simp only [Act.put]
              refine wpAnyH_ready (rs := [7]) (by kernel_rfl) (by simp) ?_
              refine AllReadyH.cons rfl (fun K hK => ?_) AllReadyH.nil
              go_simp
              refine hK.out _ _ (HS2.out _ HG2.out) (fun hHeld => ?_)
              clear hK K
              try simp only [Act.put]
              refine wpAnyH_done (by kernel_rfl) ?_ _
              clear q0 q1' q2 q3 f0 f1 f2 f3 l1 l3 lg hHeld
              go_wp2
              go_roundw
              case rel => exact ⟨j + 1, t + 1, by omega, by omega, by omega, by go_num, by go_num, HFN.out⟩
              case measure => simp only [intOf]; omega
          · by_cases hi0 : i % 2 = 0
            · have hdx : decide (0 < x) = false := by simp; omega
              have hdi : decide (i % 2 = 0) = true := by simp; omega
              have HTS2 : Hid (rsR r0 s (decide (i % 2 = 0)) (decide (0 < x)) (j + 1) = ⟨R.P ++ [(R.ne, cor t false 0)] ++ [(R.se, cor t false 2)], cor t false 1, R.sw, cor t false 3⟩) := (by have h2 := HTS.out; rw [hdx, hdi] at h2 ⊢; exact h2 : rsR r0 s (decide (i % 2 = 0)) (decide (0 < x)) (j + 1) = ⟨R.P ++ [(R.ne, cor t false 0)] ++ [(R.se, cor t false 2)], cor t false 1, R.sw, cor t false 3⟩)
              obtain ⟨q, hqq⟩ : ∃ q, i % 2 = q := ⟨_, rfl⟩
              rw [hqq] at er
              obtain rfl : q = 0 := by omega
              have hneg : x < 0 := by have := HRX.out; omega
              obtain ⟨V, hV⟩ : ∃ V, V = (W2.alloc (.cells #[.int .i64 (t : Nat), .int .i64 0, .int .i64 (t : Nat), .int .i64 1, .int .i64 (t : Nat), .int .i64 2, .int .i64 (t : Nat), .int .i64 3] 120)).alloc (.cells #[.int .i64 (t : Nat), .int .i64 3, .int .i64 (t : Nat), .int .i64 0, .int .i64 (t : Nat), .int .i64 1, .int .i64 (t : Nat), .int .i64 2] 120) := ⟨_, rfl⟩
              have HV : Hid (V = (W2.alloc (.cells #[.int .i64 (t : Nat), .int .i64 0, .int .i64 (t : Nat), .int .i64 1, .int .i64 (t : Nat), .int .i64 2, .int .i64 (t : Nat), .int .i64 3] 120)).alloc (.cells #[.int .i64 (t : Nat), .int .i64 3, .int .i64 (t : Nat), .int .i64 0, .int .i64 (t : Nat), .int .i64 1, .int .i64 (t : Nat), .int .i64 2] 120)) := hV
              have hgV : W2.grownBy V none := by rw [hV]; exact grown_two (World.grownBy_alloc _ _ _) (World.grownBy_alloc _ _ _)
              have HVG : Hid (V.heap[W2.heap.size + 1]? = some (.cells #[.int .i64 (t : Nat), .int .i64 3, .int .i64 (t : Nat), .int .i64 0, .int .i64 (t : Nat), .int .i64 1, .int .i64 (t : Nat), .int .i64 2] 120 (0, 0))) := (by rw [hV]; have h9 := box_at (W2.alloc (.cells #[.int .i64 (t : Nat), .int .i64 0, .int .i64 (t : Nat), .int .i64 1, .int .i64 (t : Nat), .int .i64 2, .int .i64 (t : Nat), .int .i64 3] 120)) (.cells #[.int .i64 (t : Nat), .int .i64 3, .int .i64 (t : Nat), .int .i64 0, .int .i64 (t : Nat), .int .i64 1, .int .i64 (t : Nat), .int .i64 2] 120); rw [sz_alloc] at h9; exact h9 : V.heap[W2.heap.size + 1]? = some (.cells #[.int .i64 (t : Nat), .int .i64 3, .int .i64 (t : Nat), .int .i64 0, .int .i64 (t : Nat), .int .i64 1, .int .i64 (t : Nat), .int .i64 2] 120 (0, 0)))
              have hBV : Below W2.heap.size W2 V := ⟨hgV.os, hgV.tape, hgV.output, hgV.size, fun k hk => hgV.block k hk (by simp)⟩
              have HBV : Hid (Below w.heap.size w V) := HBL.out.trans (hBV.mono HBL.out.size)
              have HXV : Hid (Bx V w.heap.size (.slice aa L ca) (.slice ab L cb) R.ne R.sw R.se) := HBX.out.on (hBV.mono hs6)
              have HPV : Hid (PrAt V (w.heap.size + 6) R.P (.slice aa L ca) (.slice ab L cb)) := HPR.out.any hgV
              have HNA : Hid ((Value.slice aa L ca).ownBlock ≠ some (W2.heap.size + 1) ∧ (Value.slice ab L cb).ownBlock ≠ some (W2.heap.size + 1)) := (⟨fun e => by have := (HPR.out.a.lt _ e).2; omega, fun e => by have := (HPR.out.b.lt _ e).2; omega⟩ : (Value.slice aa L ca).ownBlock ≠ some (W2.heap.size + 1) ∧ (Value.slice ab L cb).ownBlock ≠ some (W2.heap.size + 1))
              have HS : Hid (∀ w' va vb, Bx w' w.heap.size va vb R.ne R.sw R.se → w'.heap[W2.heap.size + 1]? = some (.cells #[.int .i64 (t : Nat), .int .i64 3, .int .i64 (t : Nat), .int .i64 0, .int .i64 (t : Nat), .int .i64 1, .int .i64 (t : Nat), .int .i64 2] 120 (0, 0)) → w'.cell? ⟨w.heap.size + 1 + 1 + 1, 0, none⟩ = some (.int .i64 (spP R.ne).1) ∧ w'.cell? ⟨w.heap.size + 1 + 1 + 1, 1, none⟩ = some (.int .i64 (spP R.ne).2) ∧ w'.cell? ⟨w.heap.size + 1 + 1 + 1 + 1 + 1, 0, none⟩ = some (.int .i64 (spP R.se).1) ∧ w'.cell? ⟨w.heap.size + 1 + 1 + 1 + 1 + 1, 1, none⟩ = some (.int .i64 (spP R.se).2) ∧ w'.cell? ⟨W2.heap.size + 1, 0, none⟩ = some (.int .i64 (t : Nat)) ∧ w'.cell? ⟨W2.heap.size + 1, 1, none⟩ = some (.int .i64 3) ∧ w'.cell? ⟨W2.heap.size + 1, 2, none⟩ = some (.int .i64 (t : Nat)) ∧ w'.cell? ⟨W2.heap.size + 1, 3, none⟩ = some (.int .i64 0)) := fun w' va vb hb hg => ⟨block_cell hb.n1 rfl, block_cell hb.n1 rfl, block_cell hb.n3 rfl, block_cell hb.n3 rfl, block_cell hg rfl, block_cell hg rfl, block_cell hg rfl, block_cell hg rfl⟩
              have HT1 : Hid (∀ W, PrAt W (w.heap.size + 6) R.P (.slice aa L ca) (.slice ab L cb) → Bx W w.heap.size (.slice aa L ca) (.slice ab L cb) R.ne R.sw R.se → W.heap[W2.heap.size + 1]? = some (.cells #[.int .i64 (t : Nat), .int .i64 3, .int .i64 (t : Nat), .int .i64 0, .int .i64 (t : Nat), .int .i64 1, .int .i64 (t : Nat), .int .i64 2] 120 (0, 0)) → Calls Try.prog 89 #[.agg #[.slice aa L ca, .slice ab L cb], .agg #[.int .i64 (spP R.ne).1, .int .i64 (spP R.ne).2], .agg #[.int .i64 (t : Nat), .int .i64 3]] W fun e w' => ∃ g1 c1 g2 c2, e = .returned (.agg #[.slice (some ⟨g1, 0, none⟩) (L + 1) c1, .slice (some ⟨g2, 0, none⟩) (L + 1) c2]) ∧ PrAt w' (w.heap.size + 6) (R.P ++ [(R.ne, cor t false 0)]) (.slice (some ⟨g1, 0, none⟩) (L + 1) c1) (.slice (some ⟨g2, 0, none⟩) (L + 1) c2) ∧ Bx w' w.heap.size (.slice aa L ca) (.slice ab L cb) R.ne R.sw R.se ∧ w'.heap[W2.heap.size + 1]? = some (.cells #[.int .i64 (t : Nat), .int .i64 3, .int .i64 (t : Nat), .int .i64 0, .int .i64 (t : Nat), .int .i64 1, .int .i64 (t : Nat), .int .i64 2] 120 (0, 0)) ∧ g1 ≠ W2.heap.size + 1 ∧ g2 ≠ W2.heap.size + 1 ∧ Below w.heap.size W w') := fun W h1 h2 h3 => by
                have h9 := tiedB w.heap.size (W2.heap.size + 1) L R.P aa ab ca cb R.ne (cor t false 0) _ _ _ _ _ _ W h1 HL.out (by omega) h2 h3 HNA.out.1 HNA.out.2
                rw [spV_P R.ne, spV_cor] at h9
                exact h9
              have HT2 : Hid (∀ W ga gb ua ub, ga ≠ W2.heap.size + 1 → gb ≠ W2.heap.size + 1 → PrAt W (w.heap.size + 6) (R.P ++ [(R.ne, cor t false 0)]) (.slice (some ⟨ga, 0, none⟩) (L + 1) ua) (.slice (some ⟨gb, 0, none⟩) (L + 1) ub) → Bx W w.heap.size (.slice aa L ca) (.slice ab L cb) R.ne R.sw R.se → W.heap[W2.heap.size + 1]? = some (.cells #[.int .i64 (t : Nat), .int .i64 3, .int .i64 (t : Nat), .int .i64 0, .int .i64 (t : Nat), .int .i64 1, .int .i64 (t : Nat), .int .i64 2] 120 (0, 0)) → Calls Try.prog 89 #[.agg #[.slice (some ⟨ga, 0, none⟩) (L + 1) ua, .slice (some ⟨gb, 0, none⟩) (L + 1) ub], .agg #[.int .i64 (spP R.se).1, .int .i64 (spP R.se).2], .agg #[.int .i64 (t : Nat), .int .i64 0]] W fun e w' => ∃ g1 c1 g2 c2, e = .returned (.agg #[.slice (some ⟨g1, 0, none⟩) (L + 1 + 1) c1, .slice (some ⟨g2, 0, none⟩) (L + 1 + 1) c2]) ∧ PrAt w' (w.heap.size + 6) (R.P ++ [(R.ne, cor t false 0)] ++ [(R.se, cor t false 2)]) (.slice (some ⟨g1, 0, none⟩) (L + 1 + 1) c1) (.slice (some ⟨g2, 0, none⟩) (L + 1 + 1) c2) ∧ Bx w' w.heap.size (.slice aa L ca) (.slice ab L cb) R.ne R.sw R.se ∧ w'.heap[W2.heap.size + 1]? = some (.cells #[.int .i64 (t : Nat), .int .i64 3, .int .i64 (t : Nat), .int .i64 0, .int .i64 (t : Nat), .int .i64 1, .int .i64 (t : Nat), .int .i64 2] 120 (0, 0)) ∧ g1 ≠ W2.heap.size + 1 ∧ g2 ≠ W2.heap.size + 1 ∧ Below w.heap.size W w') := fun W ga gb ua ub n1 n2 h1 h2 h3 => by
                have h9 := tiedB w.heap.size (W2.heap.size + 1) (L + 1) (R.P ++ [(R.ne, cor t false 0)]) _ _ ua ub R.se (cor t false 2) _ _ _ _ _ _ W h1 (by rw [List.length_append, HL.out]; rfl) (by omega) h2 h3 (fun e => n1 (Option.some.inj e)) (fun e => n2 (Option.some.inj e))
                rw [spV_P R.se, spV_cor] at h9
                exact h9
              have hlV : W2.heap.size + 1 < V.heap.size := (Array.getElem?_eq_some_iff.1 HVG.out).1
              have HDV : Hid (Bx V.drew w.heap.size (.slice aa L ca) (.slice ab L cb) R.ne R.sw R.se ∧ V.drew.heap[W2.heap.size + 1]? = some (.cells #[.int .i64 (t : Nat), .int .i64 3, .int .i64 (t : Nat), .int .i64 0, .int .i64 (t : Nat), .int .i64 1, .int .i64 (t : Nat), .int .i64 2] 120 (0, 0))) := ⟨HXV.out.on ((Below.refl _ _).drew.mono HXV.out.size), HVG.out⟩
              have HPD : Hid (PrAt V.drew (w.heap.size + 6) R.P (.slice aa L ca) (.slice ab L cb)) := HPV.out.any (grown_below ((Below.refl _ _).drew) none)
              have HBD : Hid (Below w.heap.size w V.drew) := HBV.out.trans ((Below.refl _ _).drew.mono HBV.out.size)
              clear hV hgV hBV hdi hqq hs6
              go_upto_region 15 with (go_at_call 88; refine (HAB.out _).mono ?_; rintro e9 w9 ⟨rfl, rfl⟩)
              rw [← HV.out]
              clear e0 hbW HV
              have t0 : V.cell? ⟨w.heap.size + 1, 0, none⟩ = some (.slice aa L ca) := block_cell HXV.out.t rfl
              have t1 : V.cell? ⟨w.heap.size + 1, 1, none⟩ = some (.slice ab L cb) := block_cell HXV.out.t rfl
              have lt : w.heap.size + 1 < V.heap.size := by have := HXV.out.size; omega
              obtain ⟨p0, p1, p2, p3, p4, p5, p6, p7⟩ := HS.out V _ _ HXV.out HVG.out
              refine wp_region_held_drew (S := fun w' => w'.cell? ⟨w.heap.size + 1 + 1 + 1, 0, none⟩ = some (.int .i64 (spP R.ne).1) ∧ w'.cell? ⟨w.heap.size + 1 + 1 + 1, 1, none⟩ = some (.int .i64 (spP R.ne).2) ∧ w'.cell? ⟨w.heap.size + 1 + 1 + 1 + 1 + 1, 0, none⟩ = some (.int .i64 (spP R.se).1) ∧ w'.cell? ⟨w.heap.size + 1 + 1 + 1 + 1 + 1, 1, none⟩ = some (.int .i64 (spP R.se).2) ∧ w'.cell? ⟨W2.heap.size + 1, 0, none⟩ = some (.int .i64 (t : Nat)) ∧ w'.cell? ⟨W2.heap.size + 1, 1, none⟩ = some (.int .i64 3) ∧ w'.cell? ⟨W2.heap.size + 1, 2, none⟩ = some (.int .i64 (t : Nat)) ∧ w'.cell? ⟨W2.heap.size + 1, 3, none⟩ = some (.int .i64 0)) (by kernel_rfl) (HS.out _ _ _ HDV.out.1 HDV.out.2) (fun hHeld => ?_)
              refine wpAnyH_take (i := 1) (v := ?vv1u29) rfl (by kernel_rfl) (by kernel_rfl) (by kernel_rfl) (fun _ _ _ h => h) (Or.inl ⟨by rfl, ?yy1u29⟩) (by assumption) ?rr1u29
              case yy1u29 => (intro w hSw; (try dsimp only at hSw); go_simp; (try with_reducible rfl))
              try simp only [Act.put]
              refine wpAnyH_take (i := 2) (v := ?vv2u30) rfl (by kernel_rfl) (by kernel_rfl) (by kernel_rfl) (fun _ _ _ h => h) (Or.inl ⟨by rfl, ?yy2u30⟩) (by assumption) ?rr2u30
              case yy2u30 => (intro w hSw; (try dsimp only at hSw); go_simp; (try with_reducible rfl))
              try simp only [Act.put]
              refine wpAnyH_take (i := 3) (v := ?vv3u31) rfl (by kernel_rfl) (by kernel_rfl) (by kernel_rfl) (fun _ _ _ h => h) (Or.inl ⟨by rfl, ?yy3u31⟩) (by assumption) ?rr3u31
              case yy3u31 => (intro w hSw; (try dsimp only at hSw); go_simp; (try with_reducible rfl))
              try simp only [Act.put]
              refine wpAnyH_take (i := 4) (v := ?vv4u32) rfl (by kernel_rfl) (by kernel_rfl) (by kernel_rfl) (fun _ _ _ h => h) (Or.inl ⟨by rfl, ?yy4u32⟩) (by assumption) ?rr4u32
              case yy4u32 => (intro w hSw; (try dsimp only at hSw); go_simp; (try with_reducible rfl))
              try simp only [Act.put]
              refine wpAnyH_take (i := 6) (v := ?vv6u33) rfl (by kernel_rfl) (by kernel_rfl) (by kernel_rfl) (fun _ _ _ h => h) (Or.inl ⟨by rfl, ?yy6u33⟩) (by assumption) ?rr6u33
              case yy6u33 => (intro w hSw; (try dsimp only at hSw); go_simp; (try with_reducible rfl))
              try simp only [Act.put]
              refine wpAnyH_take (i := 7) (v := ?vv7u34) rfl (by kernel_rfl) (by kernel_rfl) (by kernel_rfl) (fun _ _ _ h => h) (Or.inl ⟨by rfl, ?yy7u34⟩) (by assumption) ?rr7u34
              case yy7u34 => (intro w hSw; (try dsimp only at hSw); go_simp; (try with_reducible rfl))
              try simp only [Act.put]
              refine wpAnyH_take (i := 8) (v := ?vv8u35) rfl (by kernel_rfl) (by kernel_rfl) (by kernel_rfl) (fun _ _ _ h => h) (Or.inl ⟨by rfl, ?yy8u35⟩) (by assumption) ?rr8u35
              case yy8u35 => (intro w hSw; (try dsimp only at hSw); go_simp; (try with_reducible rfl))
              try simp only [Act.put]
              refine wpAnyH_take (i := 9) (v := ?vv9u36) rfl (by kernel_rfl) (by kernel_rfl) (by kernel_rfl) (fun _ _ _ h => h) (Or.inl ⟨by rfl, ?yy9u36⟩) (by assumption) ?rr9u36
              case yy9u36 => (intro w hSw; (try dsimp only at hSw); go_simp; (try with_reducible rfl))
              try simp only [Act.put]
              refine wpAnyH_ready (rs := [0]) (by kernel_rfl) (by simp) ?_
              refine AllReadyH.cons rfl (fun K hK => ?_) AllReadyH.nil
              go_simp
              refine hK.out _ _ (HS.out _ _ _ HDV.out.1 HDV.out.2) (fun hHeld => ?_)
              clear hK K
              try simp only [Act.put]
              refine wpAnyH_ready (rs := [5]) (by kernel_rfl) (by simp) ?_
              refine AllReadyH.cons rfl (fun K hK => ?_) AllReadyH.nil
              go_simp
              go_wp2_with (go_at_call 89; refine (HT1.out V.drew HPD.out HDV.out.1 HDV.out.2).mono ?_; rintro e9 w3 ⟨g3, c3, g6, c6, rfl, hp3, hx3, hg3, n3, n6, hb3⟩)
              have P3 : Hid (PrAt w3 (w.heap.size + 6) (R.P ++ [(R.ne, cor t false 0)]) (.slice (some ⟨g3, 0, none⟩) (L + 1) c3) (.slice (some ⟨g6, 0, none⟩) (L + 1) c6)) := hp3
              have H3 : Hid (Bx w3 w.heap.size (.slice aa L ca) (.slice ab L cb) R.ne R.sw R.se ∧ w3.heap[W2.heap.size + 1]? = some (.cells #[.int .i64 (t : Nat), .int .i64 3, .int .i64 (t : Nat), .int .i64 0, .int .i64 (t : Nat), .int .i64 1, .int .i64 (t : Nat), .int .i64 2] 120 (0, 0))) := ⟨hx3, hg3⟩
              have N3 : Hid (g3 ≠ W2.heap.size + 1 ∧ g6 ≠ W2.heap.size + 1) := ⟨n3, n6⟩
              have B3 : Hid (Below w.heap.size w w3) := HBD.out.trans hb3
              clear hp3 hx3 hg3 n3 n6 hb3
              refine hK.out _ _ (HS.out _ _ _ H3.out.1 H3.out.2) (fun hHeld => ?_)
              clear hK K
              try simp only [Act.put]
              refine wpAnyH_ready (rs := [10]) (by kernel_rfl) (by simp) ?_
              refine AllReadyH.cons rfl (fun K hK => ?_) AllReadyH.nil
              go_simp
              go_wp2_with (go_at_call 89; refine (HT2.out _ _ _ _ _ N3.out.1 N3.out.2 P3.out H3.out.1 H3.out.2).mono ?_; rintro e9 w4 ⟨g4, c4, g5, c5, rfl, hp4, hx4, hg4, n4, n5, hb4⟩)
              have P4 : Hid (PrAt w4 (w.heap.size + 6) (R.P ++ [(R.ne, cor t false 0)] ++ [(R.se, cor t false 2)]) (.slice (some ⟨g4, 0, none⟩) (L + 1 + 1) c4) (.slice (some ⟨g5, 0, none⟩) (L + 1 + 1) c5)) := hp4
              have H4 : Hid (Bx w4 w.heap.size (.slice aa L ca) (.slice ab L cb) R.ne R.sw R.se ∧ w4.heap[W2.heap.size + 1]? = some (.cells #[.int .i64 (t : Nat), .int .i64 3, .int .i64 (t : Nat), .int .i64 0, .int .i64 (t : Nat), .int .i64 1, .int .i64 (t : Nat), .int .i64 2] 120 (0, 0))) := ⟨hx4, hg4⟩
              have B4 : Hid (Below w.heap.size w w4) := B3.out.trans hb4
              have HZS : Hid (Bx ((w4.setCell ⟨w.heap.size + 1, 0, none⟩ (.slice (some ⟨g4, 0, none⟩) (L + 1 + 1) c4)).setCell ⟨w.heap.size + 1, 1, none⟩ (.slice (some ⟨g5, 0, none⟩) (L + 1 + 1) c5)) w.heap.size (.slice (some ⟨g4, 0, none⟩) (L + 1 + 1) c4) (.slice (some ⟨g5, 0, none⟩) (L + 1 + 1) c5) R.ne R.sw R.se ∧ ((w4.setCell ⟨w.heap.size + 1, 0, none⟩ (.slice (some ⟨g4, 0, none⟩) (L + 1 + 1) c4)).setCell ⟨w.heap.size + 1, 1, none⟩ (.slice (some ⟨g5, 0, none⟩) (L + 1 + 1) c5)).heap[W2.heap.size + 1]? = some (.cells #[.int .i64 (t : Nat), .int .i64 3, .int .i64 (t : Nat), .int .i64 0, .int .i64 (t : Nat), .int .i64 1, .int .i64 (t : Nat), .int .i64 2] 120 (0, 0))) := ⟨hx4.setT _ _, (st2_ne _ _ _ _ _ (by have := HBX.out.size; omega)).trans hg4⟩
              have r0 : w4.cell? ⟨w.heap.size + 1, 0, none⟩ = some (.slice aa L ca) := block_cell hx4.t rfl
              have r1 : w4.cell? ⟨w.heap.size + 1, 1, none⟩ = some (.slice ab L cb) := block_cell hx4.t rfl
              have f0 : w4.frozen? ⟨w.heap.size + 1, 0, none⟩ = false := froz hx4.t
              have f1 : w4.frozen? ⟨w.heap.size + 1, 1, none⟩ = false := froz hx4.t
              have l4 : w.heap.size + 1 < w4.heap.size := by have := hx4.size; omega
              clear hp4 hx4 hg4 n4 n5 hb4
              refine hK.out _ _ (HS.out _ _ _ H4.out.1 H4.out.2) (fun hHeld => ?_)
              clear hK K
              try simp only [Act.put]
              refine wpAnyH_ready (rs := [11]) (by kernel_rfl) (by simp) ?_
              refine AllReadyH.cons rfl (fun K hK => ?_) AllReadyH.nil
              go_simp
              refine hK.out _ _ (HS.out _ _ _ HZS.out.1 HZS.out.2) (fun hHeld => ?_)
              clear hK K
              try simp only [Act.put]
              refine wpAnyH_done (by kernel_rfl) ?_ _
              obtain ⟨Z, hZ⟩ : ∃ Z, Z = (w4.setCell ⟨w.heap.size + 1, 0, none⟩ (.slice (some ⟨g4, 0, none⟩) (L + 1 + 1) c4)).setCell ⟨w.heap.size + 1, 1, none⟩ (.slice (some ⟨g5, 0, none⟩) (L + 1 + 1) c5) := ⟨_, rfl⟩
              have ZP : Hid (PrAt Z (w.heap.size + 6) (R.P ++ [(R.ne, cor t false 0)] ++ [(R.se, cor t false 2)]) (.slice (some ⟨g4, 0, none⟩) (L + 1 + 1) c4) (.slice (some ⟨g5, 0, none⟩) (L + 1 + 1) c5)) := (by rw [hZ]; exact P4.out.set _ (by omega) _ _)
              have ZX : Hid (Bx Z w.heap.size (.slice (some ⟨g4, 0, none⟩) (L + 1 + 1) c4) (.slice (some ⟨g5, 0, none⟩) (L + 1 + 1) c5) R.ne R.sw R.se ∧ Z.heap[W2.heap.size + 1]? = some (.cells #[.int .i64 (t : Nat), .int .i64 3, .int .i64 (t : Nat), .int .i64 0, .int .i64 (t : Nat), .int .i64 1, .int .i64 (t : Nat), .int .i64 2] 120 (0, 0))) := (by rw [hZ]; exact HZS.out)
              have ZB : Hid (Below w.heap.size w Z) := (by rw [hZ]; exact low_set B4.out B4.out.size (by omega) _ _)
              rw [← hZ]
              clear hZ r0 r1 f0 f1 l4 t0 t1 lt p0 p1 p2 p3 p4 p5 p6 p7 HZS H4 P4 B4 H3 P3 N3 B3 hlV HT1 HT2 HS HDV HPD HBD HXV HPV HNA HVG HBV
              have hs6 := ZX.out.1.size
              have HS2 : Hid (∀ w' : World, w'.heap[W2.heap.size + 1]? = some (.cells #[.int .i64 (t : Nat), .int .i64 3, .int .i64 (t : Nat), .int .i64 0, .int .i64 (t : Nat), .int .i64 1, .int .i64 (t : Nat), .int .i64 2] 120 (0, 0)) → w'.cell? ⟨W2.heap.size + 1, 6, none⟩ = some (.int .i64 (t : Nat)) ∧ w'.cell? ⟨W2.heap.size + 1, 7, none⟩ = some (.int .i64 2) ∧ w'.cell? ⟨W2.heap.size + 1, 4, none⟩ = some (.int .i64 (t : Nat)) ∧ w'.cell? ⟨W2.heap.size + 1, 5, none⟩ = some (.int .i64 1)) := fun w' hg => ⟨block_cell hg rfl, block_cell hg rfl, block_cell hg rfl, block_cell hg rfl⟩
              obtain ⟨D, hD⟩ : ∃ D, D = Z.drew := ⟨_, rfl⟩
              have DP : Hid (PrAt D (w.heap.size + 6) (R.P ++ [(R.ne, cor t false 0)] ++ [(R.se, cor t false 2)]) (.slice (some ⟨g4, 0, none⟩) (L + 1 + 1) c4) (.slice (some ⟨g5, 0, none⟩) (L + 1 + 1) c5)) := (by rw [hD]; exact ZP.out.any (grown_below ((Below.refl _ _).drew) none))
              have DX : Hid (Bx D w.heap.size (.slice (some ⟨g4, 0, none⟩) (L + 1 + 1) c4) (.slice (some ⟨g5, 0, none⟩) (L + 1 + 1) c5) R.ne R.sw R.se) := (by rw [hD]; exact ZX.out.1.on ((Below.refl _ _).drew.mono hs6))
              have DG : Hid (D.heap[W2.heap.size + 1]? = some (.cells #[.int .i64 (t : Nat), .int .i64 3, .int .i64 (t : Nat), .int .i64 0, .int .i64 (t : Nat), .int .i64 1, .int .i64 (t : Nat), .int .i64 2] 120 (0, 0))) := (by rw [hD]; exact ZX.out.2 : D.heap[W2.heap.size + 1]? = some (.cells #[.int .i64 (t : Nat), .int .i64 3, .int .i64 (t : Nat), .int .i64 0, .int .i64 (t : Nat), .int .i64 1, .int .i64 (t : Nat), .int .i64 2] 120 (0, 0)))
              have DB : Hid (Below w.heap.size w D) := (by rw [hD]; exact ZB.out.trans ((Below.refl _ _).drew.mono ZB.out.size))
              have HDE : Hid (Z.drew = D) := hD.symm
              have HG1 : Hid (((D.setCell ⟨w.heap.size + 1 + 1 + 1, 0, none⟩ (.int .i64 (t : Nat))).setCell ⟨w.heap.size + 1 + 1 + 1, 1, none⟩ (.int .i64 2)).heap[W2.heap.size + 1]? = some (.cells #[.int .i64 (t : Nat), .int .i64 3, .int .i64 (t : Nat), .int .i64 0, .int .i64 (t : Nat), .int .i64 1, .int .i64 (t : Nat), .int .i64 2] 120 (0, 0))) := ((st2_ne _ _ _ _ _ (by have := HBX.out.size; omega)).trans DG.out)
              have HG2 : Hid (((((D.setCell ⟨w.heap.size + 1 + 1 + 1, 0, none⟩ (.int .i64 (t : Nat))).setCell ⟨w.heap.size + 1 + 1 + 1, 1, none⟩ (.int .i64 2)).setCell ⟨w.heap.size + 1 + 1 + 1 + 1 + 1, 0, none⟩ (.int .i64 (t : Nat))).setCell ⟨w.heap.size + 1 + 1 + 1 + 1 + 1, 1, none⟩ (.int .i64 1)).heap[W2.heap.size + 1]? = some (.cells #[.int .i64 (t : Nat), .int .i64 3, .int .i64 (t : Nat), .int .i64 0, .int .i64 (t : Nat), .int .i64 1, .int .i64 (t : Nat), .int .i64 2] 120 (0, 0))) := ((st2_ne _ _ _ _ _ (by have := HBX.out.size; omega)).trans HG1.out)
              have HFN : Hid (LkS w ((((D.setCell ⟨w.heap.size + 1 + 1 + 1, 0, none⟩ (.int .i64 (t : Nat))).setCell ⟨w.heap.size + 1 + 1 + 1, 1, none⟩ (.int .i64 2)).setCell ⟨w.heap.size + 1 + 1 + 1 + 1 + 1, 0, none⟩ (.int .i64 (t : Nat))).setCell ⟨w.heap.size + 1 + 1 + 1 + 1 + 1, 1, none⟩ (.int .i64 1)) w.heap.size (rsR r0 s (decide (i % 2 = 0)) (decide (0 < x)) (j + 1))) := (by
                rw [HTS2.out]
                have k1 := corP t false 1
                have k2 := corP t false 3
                have hb := (DX.out.set1 (cor t false 1)).set3 (cor t false 3)
                rw [k1, k2] at hb
                have hB2 := low_set (q := w.heap.size + 1 + 1 + 1 + 1 + 1) (low_set (q := w.heap.size + 1 + 1 + 1) DB.out DB.out.size (by omega) (.int .i64 (t : Nat)) (.int .i64 2)) (by simp; exact DB.out.size) (by omega) (.int .i64 (t : Nat)) (.int .i64 1)
                have hp2 := (DP.out.set (w.heap.size + 1 + 1 + 1) (by omega) (.int .i64 (t : Nat)) (.int .i64 2)).set (w.heap.size + 1 + 1 + 1 + 1 + 1) (by omega) (.int .i64 (t : Nat)) (.int .i64 1)
                have hLL : (R.P ++ [(R.ne, cor t false 0)] ++ [(R.se, cor t false 2)]).length = L + 1 + 1 := by rw [List.length_append, List.length_append, HL.out]; rfl
                refine ⟨hB2, some ⟨g4, 0, none⟩, some ⟨g5, 0, none⟩, c4, c5, ?_, ?_⟩
                · rw [hLL]; exact hb
                · rw [hLL]; exact hp2)
              have q0 : D.cell? ⟨w.heap.size + 1 + 1 + 1, 0, none⟩ = some (.int .i64 (spP R.ne).1) := block_cell DX.out.n1 rfl
              have q1' : D.cell? ⟨w.heap.size + 1 + 1 + 1, 1, none⟩ = some (.int .i64 (spP R.ne).2) := block_cell DX.out.n1 rfl
              have q2 : D.cell? ⟨w.heap.size + 1 + 1 + 1 + 1 + 1, 0, none⟩ = some (.int .i64 (spP R.se).1) := block_cell DX.out.n3 rfl
              have q3 : D.cell? ⟨w.heap.size + 1 + 1 + 1 + 1 + 1, 1, none⟩ = some (.int .i64 (spP R.se).2) := block_cell DX.out.n3 rfl
              have f0 : D.frozen? ⟨w.heap.size + 1 + 1 + 1, 0, none⟩ = false := froz DX.out.n1
              have f1 : D.frozen? ⟨w.heap.size + 1 + 1 + 1, 1, none⟩ = false := froz DX.out.n1
              have f2 : D.frozen? ⟨w.heap.size + 1 + 1 + 1 + 1 + 1, 0, none⟩ = false := froz DX.out.n3
              have f3 : D.frozen? ⟨w.heap.size + 1 + 1 + 1 + 1 + 1, 1, none⟩ = false := froz DX.out.n3
              have l1 : w.heap.size + 1 + 1 + 1 < D.heap.size := (Array.getElem?_eq_some_iff.1 DX.out.n1).1
              have l3 : w.heap.size + 1 + 1 + 1 + 1 + 1 < D.heap.size := (Array.getElem?_eq_some_iff.1 DX.out.n3).1
              have lg : W2.heap.size + 1 < D.heap.size := (Array.getElem?_eq_some_iff.1 DG.out).1
              clear hD hs6
              go_upto_region 16 with (fail)
              refine wp_region_held_drew (S := fun w' => w'.cell? ⟨W2.heap.size + 1, 6, none⟩ = some (.int .i64 (t : Nat)) ∧ w'.cell? ⟨W2.heap.size + 1, 7, none⟩ = some (.int .i64 2) ∧ w'.cell? ⟨W2.heap.size + 1, 4, none⟩ = some (.int .i64 (t : Nat)) ∧ w'.cell? ⟨W2.heap.size + 1, 5, none⟩ = some (.int .i64 1)) (by kernel_rfl) (HS2.out _ ZX.out.2) (fun hHeld => ?_)
              rw [HDE.out] at hHeld ⊢
              refine wpAnyH_take (i := 0) (v := ?vv0u37) rfl (by kernel_rfl) (by kernel_rfl) (by kernel_rfl) (fun _ _ _ h => h) (Or.inl ⟨by rfl, ?yy0u37⟩) (by assumption) ?rr0u37
              case yy0u37 => (intro w hSw; (try dsimp only at hSw); go_simp; (try with_reducible rfl))
              try simp only [Act.put]
              refine wpAnyH_take (i := 1) (v := ?vv1u38) rfl (by kernel_rfl) (by kernel_rfl) (by kernel_rfl) (fun _ _ _ h => h) (Or.inl ⟨by rfl, ?yy1u38⟩) (by assumption) ?rr1u38
              case yy1u38 => (intro w hSw; (try dsimp only at hSw); go_simp; (try with_reducible rfl))
              try simp only [Act.put]
              refine wpAnyH_take (i := 2) (v := ?vv2u39) rfl (by kernel_rfl) (by kernel_rfl) (by kernel_rfl) (fun _ _ _ h => h) (Or.inl ⟨by rfl, ?yy2u39⟩) (by assumption) ?rr2u39
              case yy2u39 => (intro w hSw; (try dsimp only at hSw); go_simp; (try with_reducible rfl))
              try simp only [Act.put]
              refine wpAnyH_take (i := 3) (v := ?vv3u40) rfl (by kernel_rfl) (by kernel_rfl) (by kernel_rfl) (fun _ _ _ h => h) (Or.inl ⟨by rfl, ?yy3u40⟩) (by assumption) ?rr3u40
              case yy3u40 => (intro w hSw; (try dsimp only at hSw); go_simp; (try with_reducible rfl))
              try simp only [Act.put]
              refine wpAnyH_take (i := 4) (v := ?vv4u41) rfl (by kernel_rfl) (by kernel_rfl) (by kernel_rfl) (fun _ _ _ h => h) (Or.inl ⟨by rfl, ?yy4u41⟩) (by assumption) ?rr4u41
              case yy4u41 => (intro w hSw; (try dsimp only at hSw); go_simp; (try with_reducible rfl))
              try simp only [Act.put]
              refine wpAnyH_take (i := 5) (v := ?vv5u42) rfl (by kernel_rfl) (by kernel_rfl) (by kernel_rfl) (fun _ _ _ h => h) (Or.inl ⟨by rfl, ?yy5u42⟩) (by assumption) ?rr5u42
              case yy5u42 => (intro w hSw; (try dsimp only at hSw); go_simp; (try with_reducible rfl))
              try simp only [Act.put]
              refine wpAnyH_ready (rs := [6]) (by kernel_rfl) (by simp) ?_
              refine AllReadyH.cons rfl (fun K hK => ?_) AllReadyH.nil
              go_simp
              refine hK.out _ _ (HS2.out _ HG1.out) (fun hHeld => ?_)
              clear hK K
              try simp only [Act.put]
              refine wpAnyH_ready (rs := [7]) (by kernel_rfl) (by simp) ?_
              refine AllReadyH.cons rfl (fun K hK => ?_) AllReadyH.nil
              go_simp
              refine hK.out _ _ (HS2.out _ HG2.out) (fun hHeld => ?_)
              clear hK K
              try simp only [Act.put]
              refine wpAnyH_done (by kernel_rfl) ?_ _
              clear q0 q1' q2 q3 f0 f1 f2 f3 l1 l3 lg hHeld
              go_wp2
              go_roundw
              case rel => exact ⟨j + 1, t + 1, by omega, by omega, by omega, by go_num, by go_num, HFN.out⟩
              case measure => simp only [intOf]; omega
            · have hdx : decide (0 < x) = false := by simp; omega
              have hdi : decide (i % 2 = 0) = false := by simp; omega
              have HTS2 : Hid (rsR r0 s (decide (i % 2 = 0)) (decide (0 < x)) (j + 1) = ⟨R.P ++ [(R.sw, cor t false 0)] ++ [(R.se, cor t false 1)], R.ne, cor t false 2, cor t false 3⟩) := (by have h2 := HTS.out; rw [hdx, hdi] at h2 ⊢; exact h2 : rsR r0 s (decide (i % 2 = 0)) (decide (0 < x)) (j + 1) = ⟨R.P ++ [(R.sw, cor t false 0)] ++ [(R.se, cor t false 1)], R.ne, cor t false 2, cor t false 3⟩)
              obtain ⟨q, hqq⟩ : ∃ q, i % 2 = q := ⟨_, rfl⟩
              rw [hqq] at er
              have hrz : ((q : Int) == 0) = false := by simp; omega
              have hneg : x < 0 := by have := HRX.out; omega
              obtain ⟨V, hV⟩ : ∃ V, V = (W2.alloc (.cells #[.int .i64 (t : Nat), .int .i64 0, .int .i64 (t : Nat), .int .i64 1, .int .i64 (t : Nat), .int .i64 2, .int .i64 (t : Nat), .int .i64 3] 120)).alloc (.cells #[.int .i64 (t : Nat), .int .i64 3, .int .i64 (t : Nat), .int .i64 0, .int .i64 (t : Nat), .int .i64 1, .int .i64 (t : Nat), .int .i64 2] 120) := ⟨_, rfl⟩
              have HV : Hid (V = (W2.alloc (.cells #[.int .i64 (t : Nat), .int .i64 0, .int .i64 (t : Nat), .int .i64 1, .int .i64 (t : Nat), .int .i64 2, .int .i64 (t : Nat), .int .i64 3] 120)).alloc (.cells #[.int .i64 (t : Nat), .int .i64 3, .int .i64 (t : Nat), .int .i64 0, .int .i64 (t : Nat), .int .i64 1, .int .i64 (t : Nat), .int .i64 2] 120)) := hV
              have hgV : W2.grownBy V none := by rw [hV]; exact grown_two (World.grownBy_alloc _ _ _) (World.grownBy_alloc _ _ _)
              have HVG : Hid (V.heap[W2.heap.size + 1]? = some (.cells #[.int .i64 (t : Nat), .int .i64 3, .int .i64 (t : Nat), .int .i64 0, .int .i64 (t : Nat), .int .i64 1, .int .i64 (t : Nat), .int .i64 2] 120 (0, 0))) := (by rw [hV]; have h9 := box_at (W2.alloc (.cells #[.int .i64 (t : Nat), .int .i64 0, .int .i64 (t : Nat), .int .i64 1, .int .i64 (t : Nat), .int .i64 2, .int .i64 (t : Nat), .int .i64 3] 120)) (.cells #[.int .i64 (t : Nat), .int .i64 3, .int .i64 (t : Nat), .int .i64 0, .int .i64 (t : Nat), .int .i64 1, .int .i64 (t : Nat), .int .i64 2] 120); rw [sz_alloc] at h9; exact h9 : V.heap[W2.heap.size + 1]? = some (.cells #[.int .i64 (t : Nat), .int .i64 3, .int .i64 (t : Nat), .int .i64 0, .int .i64 (t : Nat), .int .i64 1, .int .i64 (t : Nat), .int .i64 2] 120 (0, 0)))
              have hBV : Below W2.heap.size W2 V := ⟨hgV.os, hgV.tape, hgV.output, hgV.size, fun k hk => hgV.block k hk (by simp)⟩
              have HBV : Hid (Below w.heap.size w V) := HBL.out.trans (hBV.mono HBL.out.size)
              have HXV : Hid (Bx V w.heap.size (.slice aa L ca) (.slice ab L cb) R.ne R.sw R.se) := HBX.out.on (hBV.mono hs6)
              have HPV : Hid (PrAt V (w.heap.size + 6) R.P (.slice aa L ca) (.slice ab L cb)) := HPR.out.any hgV
              have HNA : Hid ((Value.slice aa L ca).ownBlock ≠ some (W2.heap.size + 1) ∧ (Value.slice ab L cb).ownBlock ≠ some (W2.heap.size + 1)) := (⟨fun e => by have := (HPR.out.a.lt _ e).2; omega, fun e => by have := (HPR.out.b.lt _ e).2; omega⟩ : (Value.slice aa L ca).ownBlock ≠ some (W2.heap.size + 1) ∧ (Value.slice ab L cb).ownBlock ≠ some (W2.heap.size + 1))
              have HS : Hid (∀ w' va vb, Bx w' w.heap.size va vb R.ne R.sw R.se → w'.heap[W2.heap.size + 1]? = some (.cells #[.int .i64 (t : Nat), .int .i64 3, .int .i64 (t : Nat), .int .i64 0, .int .i64 (t : Nat), .int .i64 1, .int .i64 (t : Nat), .int .i64 2] 120 (0, 0)) → w'.cell? ⟨w.heap.size + 1 + 1 + 1 + 1, 0, none⟩ = some (.int .i64 (spP R.sw).1) ∧ w'.cell? ⟨w.heap.size + 1 + 1 + 1 + 1, 1, none⟩ = some (.int .i64 (spP R.sw).2) ∧ w'.cell? ⟨w.heap.size + 1 + 1 + 1 + 1 + 1, 0, none⟩ = some (.int .i64 (spP R.se).1) ∧ w'.cell? ⟨w.heap.size + 1 + 1 + 1 + 1 + 1, 1, none⟩ = some (.int .i64 (spP R.se).2) ∧ w'.cell? ⟨W2.heap.size + 1, 0, none⟩ = some (.int .i64 (t : Nat)) ∧ w'.cell? ⟨W2.heap.size + 1, 1, none⟩ = some (.int .i64 3) ∧ w'.cell? ⟨W2.heap.size + 1, 6, none⟩ = some (.int .i64 (t : Nat)) ∧ w'.cell? ⟨W2.heap.size + 1, 7, none⟩ = some (.int .i64 2)) := fun w' va vb hb hg => ⟨block_cell hb.n2 rfl, block_cell hb.n2 rfl, block_cell hb.n3 rfl, block_cell hb.n3 rfl, block_cell hg rfl, block_cell hg rfl, block_cell hg rfl, block_cell hg rfl⟩
              have HT1 : Hid (∀ W, PrAt W (w.heap.size + 6) R.P (.slice aa L ca) (.slice ab L cb) → Bx W w.heap.size (.slice aa L ca) (.slice ab L cb) R.ne R.sw R.se → W.heap[W2.heap.size + 1]? = some (.cells #[.int .i64 (t : Nat), .int .i64 3, .int .i64 (t : Nat), .int .i64 0, .int .i64 (t : Nat), .int .i64 1, .int .i64 (t : Nat), .int .i64 2] 120 (0, 0)) → Calls Try.prog 89 #[.agg #[.slice aa L ca, .slice ab L cb], .agg #[.int .i64 (spP R.sw).1, .int .i64 (spP R.sw).2], .agg #[.int .i64 (t : Nat), .int .i64 3]] W fun e w' => ∃ g1 c1 g2 c2, e = .returned (.agg #[.slice (some ⟨g1, 0, none⟩) (L + 1) c1, .slice (some ⟨g2, 0, none⟩) (L + 1) c2]) ∧ PrAt w' (w.heap.size + 6) (R.P ++ [(R.sw, cor t false 0)]) (.slice (some ⟨g1, 0, none⟩) (L + 1) c1) (.slice (some ⟨g2, 0, none⟩) (L + 1) c2) ∧ Bx w' w.heap.size (.slice aa L ca) (.slice ab L cb) R.ne R.sw R.se ∧ w'.heap[W2.heap.size + 1]? = some (.cells #[.int .i64 (t : Nat), .int .i64 3, .int .i64 (t : Nat), .int .i64 0, .int .i64 (t : Nat), .int .i64 1, .int .i64 (t : Nat), .int .i64 2] 120 (0, 0)) ∧ g1 ≠ W2.heap.size + 1 ∧ g2 ≠ W2.heap.size + 1 ∧ Below w.heap.size W w') := fun W h1 h2 h3 => by
                have h9 := tiedB w.heap.size (W2.heap.size + 1) L R.P aa ab ca cb R.sw (cor t false 0) _ _ _ _ _ _ W h1 HL.out (by omega) h2 h3 HNA.out.1 HNA.out.2
                rw [spV_P R.sw, spV_cor] at h9
                exact h9
              have HT2 : Hid (∀ W ga gb ua ub, ga ≠ W2.heap.size + 1 → gb ≠ W2.heap.size + 1 → PrAt W (w.heap.size + 6) (R.P ++ [(R.sw, cor t false 0)]) (.slice (some ⟨ga, 0, none⟩) (L + 1) ua) (.slice (some ⟨gb, 0, none⟩) (L + 1) ub) → Bx W w.heap.size (.slice aa L ca) (.slice ab L cb) R.ne R.sw R.se → W.heap[W2.heap.size + 1]? = some (.cells #[.int .i64 (t : Nat), .int .i64 3, .int .i64 (t : Nat), .int .i64 0, .int .i64 (t : Nat), .int .i64 1, .int .i64 (t : Nat), .int .i64 2] 120 (0, 0)) → Calls Try.prog 89 #[.agg #[.slice (some ⟨ga, 0, none⟩) (L + 1) ua, .slice (some ⟨gb, 0, none⟩) (L + 1) ub], .agg #[.int .i64 (spP R.se).1, .int .i64 (spP R.se).2], .agg #[.int .i64 (t : Nat), .int .i64 2]] W fun e w' => ∃ g1 c1 g2 c2, e = .returned (.agg #[.slice (some ⟨g1, 0, none⟩) (L + 1 + 1) c1, .slice (some ⟨g2, 0, none⟩) (L + 1 + 1) c2]) ∧ PrAt w' (w.heap.size + 6) (R.P ++ [(R.sw, cor t false 0)] ++ [(R.se, cor t false 1)]) (.slice (some ⟨g1, 0, none⟩) (L + 1 + 1) c1) (.slice (some ⟨g2, 0, none⟩) (L + 1 + 1) c2) ∧ Bx w' w.heap.size (.slice aa L ca) (.slice ab L cb) R.ne R.sw R.se ∧ w'.heap[W2.heap.size + 1]? = some (.cells #[.int .i64 (t : Nat), .int .i64 3, .int .i64 (t : Nat), .int .i64 0, .int .i64 (t : Nat), .int .i64 1, .int .i64 (t : Nat), .int .i64 2] 120 (0, 0)) ∧ g1 ≠ W2.heap.size + 1 ∧ g2 ≠ W2.heap.size + 1 ∧ Below w.heap.size W w') := fun W ga gb ua ub n1 n2 h1 h2 h3 => by
                have h9 := tiedB w.heap.size (W2.heap.size + 1) (L + 1) (R.P ++ [(R.sw, cor t false 0)]) _ _ ua ub R.se (cor t false 1) _ _ _ _ _ _ W h1 (by rw [List.length_append, HL.out]; rfl) (by omega) h2 h3 (fun e => n1 (Option.some.inj e)) (fun e => n2 (Option.some.inj e))
                rw [spV_P R.se, spV_cor] at h9
                exact h9
              have hlV : W2.heap.size + 1 < V.heap.size := (Array.getElem?_eq_some_iff.1 HVG.out).1
              have HDV : Hid (Bx V.drew w.heap.size (.slice aa L ca) (.slice ab L cb) R.ne R.sw R.se ∧ V.drew.heap[W2.heap.size + 1]? = some (.cells #[.int .i64 (t : Nat), .int .i64 3, .int .i64 (t : Nat), .int .i64 0, .int .i64 (t : Nat), .int .i64 1, .int .i64 (t : Nat), .int .i64 2] 120 (0, 0))) := ⟨HXV.out.on ((Below.refl _ _).drew.mono HXV.out.size), HVG.out⟩
              have HPD : Hid (PrAt V.drew (w.heap.size + 6) R.P (.slice aa L ca) (.slice ab L cb)) := HPV.out.any (grown_below ((Below.refl _ _).drew) none)
              have HBD : Hid (Below w.heap.size w V.drew) := HBV.out.trans ((Below.refl _ _).drew.mono HBV.out.size)
              clear hV hgV hBV hdi hqq hs6
              go_upto_region 17 with (go_at_call 88; refine (HAB.out _).mono ?_; rintro e9 w9 ⟨rfl, rfl⟩)
              rw [← HV.out]
              clear e0 hbW HV
              have t0 : V.cell? ⟨w.heap.size + 1, 0, none⟩ = some (.slice aa L ca) := block_cell HXV.out.t rfl
              have t1 : V.cell? ⟨w.heap.size + 1, 1, none⟩ = some (.slice ab L cb) := block_cell HXV.out.t rfl
              have lt : w.heap.size + 1 < V.heap.size := by have := HXV.out.size; omega
              obtain ⟨p0, p1, p2, p3, p4, p5, p6, p7⟩ := HS.out V _ _ HXV.out HVG.out
              refine wp_region_held_drew (S := fun w' => w'.cell? ⟨w.heap.size + 1 + 1 + 1 + 1, 0, none⟩ = some (.int .i64 (spP R.sw).1) ∧ w'.cell? ⟨w.heap.size + 1 + 1 + 1 + 1, 1, none⟩ = some (.int .i64 (spP R.sw).2) ∧ w'.cell? ⟨w.heap.size + 1 + 1 + 1 + 1 + 1, 0, none⟩ = some (.int .i64 (spP R.se).1) ∧ w'.cell? ⟨w.heap.size + 1 + 1 + 1 + 1 + 1, 1, none⟩ = some (.int .i64 (spP R.se).2) ∧ w'.cell? ⟨W2.heap.size + 1, 0, none⟩ = some (.int .i64 (t : Nat)) ∧ w'.cell? ⟨W2.heap.size + 1, 1, none⟩ = some (.int .i64 3) ∧ w'.cell? ⟨W2.heap.size + 1, 6, none⟩ = some (.int .i64 (t : Nat)) ∧ w'.cell? ⟨W2.heap.size + 1, 7, none⟩ = some (.int .i64 2)) (by kernel_rfl) (HS.out _ _ _ HDV.out.1 HDV.out.2) (fun hHeld => ?_)
              refine wpAnyH_take (i := 1) (v := ?vv1u43) rfl (by kernel_rfl) (by kernel_rfl) (by kernel_rfl) (fun _ _ _ h => h) (Or.inl ⟨by rfl, ?yy1u43⟩) (by assumption) ?rr1u43
              case yy1u43 => (intro w hSw; (try dsimp only at hSw); go_simp; (try with_reducible rfl))
              try simp only [Act.put]
              refine wpAnyH_take (i := 2) (v := ?vv2u44) rfl (by kernel_rfl) (by kernel_rfl) (by kernel_rfl) (fun _ _ _ h => h) (Or.inl ⟨by rfl, ?yy2u44⟩) (by assumption) ?rr2u44
              case yy2u44 => (intro w hSw; (try dsimp only at hSw); go_simp; (try with_reducible rfl))
              try simp only [Act.put]
              refine wpAnyH_take (i := 3) (v := ?vv3u45) rfl (by kernel_rfl) (by kernel_rfl) (by kernel_rfl) (fun _ _ _ h => h) (Or.inl ⟨by rfl, ?yy3u45⟩) (by assumption) ?rr3u45
              case yy3u45 => (intro w hSw; (try dsimp only at hSw); go_simp; (try with_reducible rfl))
              try simp only [Act.put]
              refine wpAnyH_take (i := 4) (v := ?vv4u46) rfl (by kernel_rfl) (by kernel_rfl) (by kernel_rfl) (fun _ _ _ h => h) (Or.inl ⟨by rfl, ?yy4u46⟩) (by assumption) ?rr4u46
              case yy4u46 => (intro w hSw; (try dsimp only at hSw); go_simp; (try with_reducible rfl))
              try simp only [Act.put]
              refine wpAnyH_take (i := 6) (v := ?vv6u47) rfl (by kernel_rfl) (by kernel_rfl) (by kernel_rfl) (fun _ _ _ h => h) (Or.inl ⟨by rfl, ?yy6u47⟩) (by assumption) ?rr6u47
              case yy6u47 => (intro w hSw; (try dsimp only at hSw); go_simp; (try with_reducible rfl))
              try simp only [Act.put]
              refine wpAnyH_take (i := 7) (v := ?vv7u48) rfl (by kernel_rfl) (by kernel_rfl) (by kernel_rfl) (fun _ _ _ h => h) (Or.inl ⟨by rfl, ?yy7u48⟩) (by assumption) ?rr7u48
              case yy7u48 => (intro w hSw; (try dsimp only at hSw); go_simp; (try with_reducible rfl))
              try simp only [Act.put]
              refine wpAnyH_take (i := 8) (v := ?vv8u49) rfl (by kernel_rfl) (by kernel_rfl) (by kernel_rfl) (fun _ _ _ h => h) (Or.inl ⟨by rfl, ?yy8u49⟩) (by assumption) ?rr8u49
              case yy8u49 => (intro w hSw; (try dsimp only at hSw); go_simp; (try with_reducible rfl))
              try simp only [Act.put]
              refine wpAnyH_take (i := 9) (v := ?vv9u50) rfl (by kernel_rfl) (by kernel_rfl) (by kernel_rfl) (fun _ _ _ h => h) (Or.inl ⟨by rfl, ?yy9u50⟩) (by assumption) ?rr9u50
              case yy9u50 => (intro w hSw; (try dsimp only at hSw); go_simp; (try with_reducible rfl))
              try simp only [Act.put]
              refine wpAnyH_ready (rs := [0]) (by kernel_rfl) (by simp) ?_
              refine AllReadyH.cons rfl (fun K hK => ?_) AllReadyH.nil
              go_simp
              refine hK.out _ _ (HS.out _ _ _ HDV.out.1 HDV.out.2) (fun hHeld => ?_)
              clear hK K
              try simp only [Act.put]
              refine wpAnyH_ready (rs := [5]) (by kernel_rfl) (by simp) ?_
              refine AllReadyH.cons rfl (fun K hK => ?_) AllReadyH.nil
              go_simp
              go_wp2_with (go_at_call 89; refine (HT1.out V.drew HPD.out HDV.out.1 HDV.out.2).mono ?_; rintro e9 w3 ⟨g3, c3, g6, c6, rfl, hp3, hx3, hg3, n3, n6, hb3⟩)
              have P3 : Hid (PrAt w3 (w.heap.size + 6) (R.P ++ [(R.sw, cor t false 0)]) (.slice (some ⟨g3, 0, none⟩) (L + 1) c3) (.slice (some ⟨g6, 0, none⟩) (L + 1) c6)) := hp3
              have H3 : Hid (Bx w3 w.heap.size (.slice aa L ca) (.slice ab L cb) R.ne R.sw R.se ∧ w3.heap[W2.heap.size + 1]? = some (.cells #[.int .i64 (t : Nat), .int .i64 3, .int .i64 (t : Nat), .int .i64 0, .int .i64 (t : Nat), .int .i64 1, .int .i64 (t : Nat), .int .i64 2] 120 (0, 0))) := ⟨hx3, hg3⟩
              have N3 : Hid (g3 ≠ W2.heap.size + 1 ∧ g6 ≠ W2.heap.size + 1) := ⟨n3, n6⟩
              have B3 : Hid (Below w.heap.size w w3) := HBD.out.trans hb3
              clear hp3 hx3 hg3 n3 n6 hb3
              refine hK.out _ _ (HS.out _ _ _ H3.out.1 H3.out.2) (fun hHeld => ?_)
              clear hK K
              try simp only [Act.put]
              refine wpAnyH_ready (rs := [10]) (by kernel_rfl) (by simp) ?_
              refine AllReadyH.cons rfl (fun K hK => ?_) AllReadyH.nil
              go_simp
              go_wp2_with (go_at_call 89; refine (HT2.out _ _ _ _ _ N3.out.1 N3.out.2 P3.out H3.out.1 H3.out.2).mono ?_; rintro e9 w4 ⟨g4, c4, g5, c5, rfl, hp4, hx4, hg4, n4, n5, hb4⟩)
              have P4 : Hid (PrAt w4 (w.heap.size + 6) (R.P ++ [(R.sw, cor t false 0)] ++ [(R.se, cor t false 1)]) (.slice (some ⟨g4, 0, none⟩) (L + 1 + 1) c4) (.slice (some ⟨g5, 0, none⟩) (L + 1 + 1) c5)) := hp4
              have H4 : Hid (Bx w4 w.heap.size (.slice aa L ca) (.slice ab L cb) R.ne R.sw R.se ∧ w4.heap[W2.heap.size + 1]? = some (.cells #[.int .i64 (t : Nat), .int .i64 3, .int .i64 (t : Nat), .int .i64 0, .int .i64 (t : Nat), .int .i64 1, .int .i64 (t : Nat), .int .i64 2] 120 (0, 0))) := ⟨hx4, hg4⟩
              have B4 : Hid (Below w.heap.size w w4) := B3.out.trans hb4
              have HZS : Hid (Bx ((w4.setCell ⟨w.heap.size + 1, 0, none⟩ (.slice (some ⟨g4, 0, none⟩) (L + 1 + 1) c4)).setCell ⟨w.heap.size + 1, 1, none⟩ (.slice (some ⟨g5, 0, none⟩) (L + 1 + 1) c5)) w.heap.size (.slice (some ⟨g4, 0, none⟩) (L + 1 + 1) c4) (.slice (some ⟨g5, 0, none⟩) (L + 1 + 1) c5) R.ne R.sw R.se ∧ ((w4.setCell ⟨w.heap.size + 1, 0, none⟩ (.slice (some ⟨g4, 0, none⟩) (L + 1 + 1) c4)).setCell ⟨w.heap.size + 1, 1, none⟩ (.slice (some ⟨g5, 0, none⟩) (L + 1 + 1) c5)).heap[W2.heap.size + 1]? = some (.cells #[.int .i64 (t : Nat), .int .i64 3, .int .i64 (t : Nat), .int .i64 0, .int .i64 (t : Nat), .int .i64 1, .int .i64 (t : Nat), .int .i64 2] 120 (0, 0))) := ⟨hx4.setT _ _, (st2_ne _ _ _ _ _ (by have := HBX.out.size; omega)).trans hg4⟩
              have r0 : w4.cell? ⟨w.heap.size + 1, 0, none⟩ = some (.slice aa L ca) := block_cell hx4.t rfl
              have r1 : w4.cell? ⟨w.heap.size + 1, 1, none⟩ = some (.slice ab L cb) := block_cell hx4.t rfl
              have f0 : w4.frozen? ⟨w.heap.size + 1, 0, none⟩ = false := froz hx4.t
              have f1 : w4.frozen? ⟨w.heap.size + 1, 1, none⟩ = false := froz hx4.t
              have l4 : w.heap.size + 1 < w4.heap.size := by have := hx4.size; omega
              clear hp4 hx4 hg4 n4 n5 hb4
              refine hK.out _ _ (HS.out _ _ _ H4.out.1 H4.out.2) (fun hHeld => ?_)
              clear hK K
              try simp only [Act.put]
              refine wpAnyH_ready (rs := [11]) (by kernel_rfl) (by simp) ?_
              refine AllReadyH.cons rfl (fun K hK => ?_) AllReadyH.nil
              go_simp
              refine hK.out _ _ (HS.out _ _ _ HZS.out.1 HZS.out.2) (fun hHeld => ?_)
              clear hK K
              try simp only [Act.put]
              refine wpAnyH_done (by kernel_rfl) ?_ _
              obtain ⟨Z, hZ⟩ : ∃ Z, Z = (w4.setCell ⟨w.heap.size + 1, 0, none⟩ (.slice (some ⟨g4, 0, none⟩) (L + 1 + 1) c4)).setCell ⟨w.heap.size + 1, 1, none⟩ (.slice (some ⟨g5, 0, none⟩) (L + 1 + 1) c5) := ⟨_, rfl⟩
              have ZP : Hid (PrAt Z (w.heap.size + 6) (R.P ++ [(R.sw, cor t false 0)] ++ [(R.se, cor t false 1)]) (.slice (some ⟨g4, 0, none⟩) (L + 1 + 1) c4) (.slice (some ⟨g5, 0, none⟩) (L + 1 + 1) c5)) := (by rw [hZ]; exact P4.out.set _ (by omega) _ _)
              have ZX : Hid (Bx Z w.heap.size (.slice (some ⟨g4, 0, none⟩) (L + 1 + 1) c4) (.slice (some ⟨g5, 0, none⟩) (L + 1 + 1) c5) R.ne R.sw R.se ∧ Z.heap[W2.heap.size + 1]? = some (.cells #[.int .i64 (t : Nat), .int .i64 3, .int .i64 (t : Nat), .int .i64 0, .int .i64 (t : Nat), .int .i64 1, .int .i64 (t : Nat), .int .i64 2] 120 (0, 0))) := (by rw [hZ]; exact HZS.out)
              have ZB : Hid (Below w.heap.size w Z) := (by rw [hZ]; exact low_set B4.out B4.out.size (by omega) _ _)
              rw [← hZ]
              clear hZ r0 r1 f0 f1 l4 t0 t1 lt p0 p1 p2 p3 p4 p5 p6 p7 HZS H4 P4 B4 H3 P3 N3 B3 hlV HT1 HT2 HS HDV HPD HBD HXV HPV HNA HVG HBV
              have hs6 := ZX.out.1.size
              have HS2 : Hid (∀ w' : World, w'.heap[W2.heap.size + 1]? = some (.cells #[.int .i64 (t : Nat), .int .i64 3, .int .i64 (t : Nat), .int .i64 0, .int .i64 (t : Nat), .int .i64 1, .int .i64 (t : Nat), .int .i64 2] 120 (0, 0)) → w'.cell? ⟨W2.heap.size + 1, 2, none⟩ = some (.int .i64 (t : Nat)) ∧ w'.cell? ⟨W2.heap.size + 1, 3, none⟩ = some (.int .i64 0) ∧ w'.cell? ⟨W2.heap.size + 1, 4, none⟩ = some (.int .i64 (t : Nat)) ∧ w'.cell? ⟨W2.heap.size + 1, 5, none⟩ = some (.int .i64 1)) := fun w' hg => ⟨block_cell hg rfl, block_cell hg rfl, block_cell hg rfl, block_cell hg rfl⟩
              obtain ⟨D, hD⟩ : ∃ D, D = Z.drew := ⟨_, rfl⟩
              have DP : Hid (PrAt D (w.heap.size + 6) (R.P ++ [(R.sw, cor t false 0)] ++ [(R.se, cor t false 1)]) (.slice (some ⟨g4, 0, none⟩) (L + 1 + 1) c4) (.slice (some ⟨g5, 0, none⟩) (L + 1 + 1) c5)) := (by rw [hD]; exact ZP.out.any (grown_below ((Below.refl _ _).drew) none))
              have DX : Hid (Bx D w.heap.size (.slice (some ⟨g4, 0, none⟩) (L + 1 + 1) c4) (.slice (some ⟨g5, 0, none⟩) (L + 1 + 1) c5) R.ne R.sw R.se) := (by rw [hD]; exact ZX.out.1.on ((Below.refl _ _).drew.mono hs6))
              have DG : Hid (D.heap[W2.heap.size + 1]? = some (.cells #[.int .i64 (t : Nat), .int .i64 3, .int .i64 (t : Nat), .int .i64 0, .int .i64 (t : Nat), .int .i64 1, .int .i64 (t : Nat), .int .i64 2] 120 (0, 0))) := (by rw [hD]; exact ZX.out.2 : D.heap[W2.heap.size + 1]? = some (.cells #[.int .i64 (t : Nat), .int .i64 3, .int .i64 (t : Nat), .int .i64 0, .int .i64 (t : Nat), .int .i64 1, .int .i64 (t : Nat), .int .i64 2] 120 (0, 0)))
              have DB : Hid (Below w.heap.size w D) := (by rw [hD]; exact ZB.out.trans ((Below.refl _ _).drew.mono ZB.out.size))
              have HDE : Hid (Z.drew = D) := hD.symm
              have HG1 : Hid (((D.setCell ⟨w.heap.size + 1 + 1 + 1 + 1, 0, none⟩ (.int .i64 (t : Nat))).setCell ⟨w.heap.size + 1 + 1 + 1 + 1, 1, none⟩ (.int .i64 0)).heap[W2.heap.size + 1]? = some (.cells #[.int .i64 (t : Nat), .int .i64 3, .int .i64 (t : Nat), .int .i64 0, .int .i64 (t : Nat), .int .i64 1, .int .i64 (t : Nat), .int .i64 2] 120 (0, 0))) := ((st2_ne _ _ _ _ _ (by have := HBX.out.size; omega)).trans DG.out)
              have HG2 : Hid (((((D.setCell ⟨w.heap.size + 1 + 1 + 1 + 1, 0, none⟩ (.int .i64 (t : Nat))).setCell ⟨w.heap.size + 1 + 1 + 1 + 1, 1, none⟩ (.int .i64 0)).setCell ⟨w.heap.size + 1 + 1 + 1 + 1 + 1, 0, none⟩ (.int .i64 (t : Nat))).setCell ⟨w.heap.size + 1 + 1 + 1 + 1 + 1, 1, none⟩ (.int .i64 1)).heap[W2.heap.size + 1]? = some (.cells #[.int .i64 (t : Nat), .int .i64 3, .int .i64 (t : Nat), .int .i64 0, .int .i64 (t : Nat), .int .i64 1, .int .i64 (t : Nat), .int .i64 2] 120 (0, 0))) := ((st2_ne _ _ _ _ _ (by have := HBX.out.size; omega)).trans HG1.out)
              have HFN : Hid (LkS w ((((D.setCell ⟨w.heap.size + 1 + 1 + 1 + 1, 0, none⟩ (.int .i64 (t : Nat))).setCell ⟨w.heap.size + 1 + 1 + 1 + 1, 1, none⟩ (.int .i64 0)).setCell ⟨w.heap.size + 1 + 1 + 1 + 1 + 1, 0, none⟩ (.int .i64 (t : Nat))).setCell ⟨w.heap.size + 1 + 1 + 1 + 1 + 1, 1, none⟩ (.int .i64 1)) w.heap.size (rsR r0 s (decide (i % 2 = 0)) (decide (0 < x)) (j + 1))) := (by
                rw [HTS2.out]
                have k1 := corP t false 2
                have k2 := corP t false 3
                have hb := (DX.out.set2 (cor t false 2)).set3 (cor t false 3)
                rw [k1, k2] at hb
                have hB2 := low_set (q := w.heap.size + 1 + 1 + 1 + 1 + 1) (low_set (q := w.heap.size + 1 + 1 + 1 + 1) DB.out DB.out.size (by omega) (.int .i64 (t : Nat)) (.int .i64 0)) (by simp; exact DB.out.size) (by omega) (.int .i64 (t : Nat)) (.int .i64 1)
                have hp2 := (DP.out.set (w.heap.size + 1 + 1 + 1 + 1) (by omega) (.int .i64 (t : Nat)) (.int .i64 0)).set (w.heap.size + 1 + 1 + 1 + 1 + 1) (by omega) (.int .i64 (t : Nat)) (.int .i64 1)
                have hLL : (R.P ++ [(R.sw, cor t false 0)] ++ [(R.se, cor t false 1)]).length = L + 1 + 1 := by rw [List.length_append, List.length_append, HL.out]; rfl
                refine ⟨hB2, some ⟨g4, 0, none⟩, some ⟨g5, 0, none⟩, c4, c5, ?_, ?_⟩
                · rw [hLL]; exact hb
                · rw [hLL]; exact hp2)
              have q0 : D.cell? ⟨w.heap.size + 1 + 1 + 1 + 1, 0, none⟩ = some (.int .i64 (spP R.sw).1) := block_cell DX.out.n2 rfl
              have q1' : D.cell? ⟨w.heap.size + 1 + 1 + 1 + 1, 1, none⟩ = some (.int .i64 (spP R.sw).2) := block_cell DX.out.n2 rfl
              have q2 : D.cell? ⟨w.heap.size + 1 + 1 + 1 + 1 + 1, 0, none⟩ = some (.int .i64 (spP R.se).1) := block_cell DX.out.n3 rfl
              have q3 : D.cell? ⟨w.heap.size + 1 + 1 + 1 + 1 + 1, 1, none⟩ = some (.int .i64 (spP R.se).2) := block_cell DX.out.n3 rfl
              have f0 : D.frozen? ⟨w.heap.size + 1 + 1 + 1 + 1, 0, none⟩ = false := froz DX.out.n2
              have f1 : D.frozen? ⟨w.heap.size + 1 + 1 + 1 + 1, 1, none⟩ = false := froz DX.out.n2
              have f2 : D.frozen? ⟨w.heap.size + 1 + 1 + 1 + 1 + 1, 0, none⟩ = false := froz DX.out.n3
              have f3 : D.frozen? ⟨w.heap.size + 1 + 1 + 1 + 1 + 1, 1, none⟩ = false := froz DX.out.n3
              have l1 : w.heap.size + 1 + 1 + 1 + 1 < D.heap.size := (Array.getElem?_eq_some_iff.1 DX.out.n2).1
              have l3 : w.heap.size + 1 + 1 + 1 + 1 + 1 < D.heap.size := (Array.getElem?_eq_some_iff.1 DX.out.n3).1
              have lg : W2.heap.size + 1 < D.heap.size := (Array.getElem?_eq_some_iff.1 DG.out).1
              clear hD hs6
              go_upto_region 18 with (fail)
              refine wp_region_held_drew (S := fun w' => w'.cell? ⟨W2.heap.size + 1, 2, none⟩ = some (.int .i64 (t : Nat)) ∧ w'.cell? ⟨W2.heap.size + 1, 3, none⟩ = some (.int .i64 0) ∧ w'.cell? ⟨W2.heap.size + 1, 4, none⟩ = some (.int .i64 (t : Nat)) ∧ w'.cell? ⟨W2.heap.size + 1, 5, none⟩ = some (.int .i64 1)) (by kernel_rfl) (HS2.out _ ZX.out.2) (fun hHeld => ?_)
              rw [HDE.out] at hHeld ⊢
              refine wpAnyH_take (i := 0) (v := ?vv0u51) rfl (by kernel_rfl) (by kernel_rfl) (by kernel_rfl) (fun _ _ _ h => h) (Or.inl ⟨by rfl, ?yy0u51⟩) (by assumption) ?rr0u51
              case yy0u51 => (intro w hSw; (try dsimp only at hSw); go_simp; (try with_reducible rfl))
              try simp only [Act.put]
              refine wpAnyH_take (i := 1) (v := ?vv1u52) rfl (by kernel_rfl) (by kernel_rfl) (by kernel_rfl) (fun _ _ _ h => h) (Or.inl ⟨by rfl, ?yy1u52⟩) (by assumption) ?rr1u52
              case yy1u52 => (intro w hSw; (try dsimp only at hSw); go_simp; (try with_reducible rfl))
              try simp only [Act.put]
              refine wpAnyH_take (i := 2) (v := ?vv2u53) rfl (by kernel_rfl) (by kernel_rfl) (by kernel_rfl) (fun _ _ _ h => h) (Or.inl ⟨by rfl, ?yy2u53⟩) (by assumption) ?rr2u53
              case yy2u53 => (intro w hSw; (try dsimp only at hSw); go_simp; (try with_reducible rfl))
              try simp only [Act.put]
              refine wpAnyH_take (i := 3) (v := ?vv3u54) rfl (by kernel_rfl) (by kernel_rfl) (by kernel_rfl) (fun _ _ _ h => h) (Or.inl ⟨by rfl, ?yy3u54⟩) (by assumption) ?rr3u54
              case yy3u54 => (intro w hSw; (try dsimp only at hSw); go_simp; (try with_reducible rfl))
              try simp only [Act.put]
              refine wpAnyH_take (i := 4) (v := ?vv4u55) rfl (by kernel_rfl) (by kernel_rfl) (by kernel_rfl) (fun _ _ _ h => h) (Or.inl ⟨by rfl, ?yy4u55⟩) (by assumption) ?rr4u55
              case yy4u55 => (intro w hSw; (try dsimp only at hSw); go_simp; (try with_reducible rfl))
              try simp only [Act.put]
              refine wpAnyH_take (i := 5) (v := ?vv5u56) rfl (by kernel_rfl) (by kernel_rfl) (by kernel_rfl) (fun _ _ _ h => h) (Or.inl ⟨by rfl, ?yy5u56⟩) (by assumption) ?rr5u56
              case yy5u56 => (intro w hSw; (try dsimp only at hSw); go_simp; (try with_reducible rfl))
              try simp only [Act.put]
              refine wpAnyH_ready (rs := [6]) (by kernel_rfl) (by simp) ?_
              refine AllReadyH.cons rfl (fun K hK => ?_) AllReadyH.nil
              go_simp
              refine hK.out _ _ (HS2.out _ HG1.out) (fun hHeld => ?_)
              clear hK K
              try simp only [Act.put]
              refine wpAnyH_ready (rs := [7]) (by kernel_rfl) (by simp) ?_
              refine AllReadyH.cons rfl (fun K hK => ?_) AllReadyH.nil
              go_simp
              refine hK.out _ _ (HS2.out _ HG2.out) (fun hHeld => ?_)
              clear hK K
              try simp only [Act.put]
              refine wpAnyH_done (by kernel_rfl) ?_ _
              clear q0 q1' q2 q3 f0 f1 f2 f3 l1 l3 lg hHeld
              go_wp2
              go_roundw
              case rel => exact ⟨j + 1, t + 1, by omega, by omega, by omega, by go_num, by go_num, HFN.out⟩
              case measure => simp only [intOf]; omega
        · obtain rfl : j = z := by omega
          have HEQ : Hid (szTo l (i + 1) = t) := (by rw [HS1.out]; omega : szTo l (i + 1) = t)
          go_wp2_with (go_at_call 88; refine (HAB.out _).mono ?_; rintro e9 w9 ⟨rfl, rfl⟩)
          go_roundw
          case rel => exact ⟨i + 1, t, by omega, by omega, by go_num, rfl, HEQ.out, by rw [HTZ.out]; exact hst.out⟩
          case measure => simp only [intOf]; omega
    · obtain rfl : i = m := by omega
      have hsn : s = n := by rw [← hsz.out, ← HM.out]; exact HZN.out
      have hlen := HLN.out i
      rw [hsz.out] at hlen
      have HPE : Hid (rsP (rsL l l.length) = rsP (rsL l i)) := (by rw [HM.out] : rsP (rsL l l.length) = rsP (rsL l i))
      have HW1 := HW.out
      rw [HPE.out] at HW1
      clear HW HPE HLN HM
      generalize rsL l i = R at hst hlen HW1
      obtain ⟨hBL, aa, ab, ca, cb, hbx, hpr⟩ := hst.out
      obtain ⟨L, hL⟩ : ∃ L, R.P.length = L := ⟨_, rfl⟩
      have HL : Hid (R.P.length = L) := hL
      rw [hL] at hbx hpr hlen
      have e22 : 2 * n + 2 = L + 1 + 1 := by omega
      rw [e22] at HW1
      have HWK : Hid (∀ (W : World) (gA gB cA cB : Nat), PrAt W (w.heap.size + 6) (R.P ++ [(0, R.ne)] ++ [(R.sw, R.se)]) (.slice (some ⟨gA, 0, none⟩) (L + 1 + 1) cA) (.slice (some ⟨gB, 0, none⟩) (L + 1 + 1) cB) → Calls Try.prog 90 #[.agg #[.slice (some ⟨gA, 0, none⟩) (L + 1 + 1) cA, .slice (some ⟨gB, 0, none⟩) (L + 1 + 1) cB], .int .i64 (n : Nat)] W fun e w' => ∃ a2 c2, e = .returned (.agg #[.slice a2 n c2, .int .i64 k]) ∧ w'.ownsRow W.heap.size 105 5 (.slice a2 n c2) n (crossCells C) ∧ Below W.heap.size W w') := HW1
      have hlen2 : L ≤ 32 := by omega
      have HXV : Hid (Bx W1 w.heap.size (.slice aa L ca) (.slice ab L cb) R.ne R.sw R.se) := hbx
      have HPV : Hid (PrAt W1 (w.heap.size + 6) R.P (.slice aa L ca) (.slice ab L cb)) := hpr
      have HBV : Hid (Below w.heap.size w W1) := hBL
      have hs6 := hbx.size
      subst hsn
      clear hbx hpr hBL hL hst hlen HW1 e22 hsz
      have HNA : Hid ((Value.slice aa L ca).ownBlock ≠ some w.heap.size ∧ (Value.slice ab L cb).ownBlock ≠ some w.heap.size) := (⟨fun e => by have := (HPV.out.a.lt _ e).1; omega, fun e => by have := (HPV.out.b.lt _ e).1; omega⟩ : (Value.slice aa L ca).ownBlock ≠ some w.heap.size ∧ (Value.slice ab L cb).ownBlock ≠ some w.heap.size)
      have HS : Hid (∀ w' va vb, Bx w' w.heap.size va vb R.ne R.sw R.se → w'.cell? ⟨w.heap.size + 1 + 1, 0, none⟩ = some (.int .i64 (spP 0).1) ∧ w'.cell? ⟨w.heap.size + 1 + 1, 1, none⟩ = some (.int .i64 (spP 0).2) ∧ w'.cell? ⟨w.heap.size + 1 + 1 + 1, 0, none⟩ = some (.int .i64 (spP R.ne).1) ∧ w'.cell? ⟨w.heap.size + 1 + 1 + 1, 1, none⟩ = some (.int .i64 (spP R.ne).2) ∧ w'.cell? ⟨w.heap.size + 1 + 1 + 1 + 1, 0, none⟩ = some (.int .i64 (spP R.sw).1) ∧ w'.cell? ⟨w.heap.size + 1 + 1 + 1 + 1, 1, none⟩ = some (.int .i64 (spP R.sw).2) ∧ w'.cell? ⟨w.heap.size + 1 + 1 + 1 + 1 + 1, 0, none⟩ = some (.int .i64 (spP R.se).1) ∧ w'.cell? ⟨w.heap.size + 1 + 1 + 1 + 1 + 1, 1, none⟩ = some (.int .i64 (spP R.se).2)) := fun w' va vb hb => ⟨block_cell hb.n0 rfl, block_cell hb.n0 rfl, block_cell hb.n1 rfl, block_cell hb.n1 rfl, block_cell hb.n2 rfl, block_cell hb.n2 rfl, block_cell hb.n3 rfl, block_cell hb.n3 rfl⟩
      have HT1 : Hid (∀ W, PrAt W (w.heap.size + 6) R.P (.slice aa L ca) (.slice ab L cb) → Bx W w.heap.size (.slice aa L ca) (.slice ab L cb) R.ne R.sw R.se → Calls Try.prog 89 #[.agg #[.slice aa L ca, .slice ab L cb], .agg #[.int .i64 (spP 0).1, .int .i64 (spP 0).2], .agg #[.int .i64 (spP R.ne).1, .int .i64 (spP R.ne).2]] W fun e w' => ∃ g1 c1 g2 c2, e = .returned (.agg #[.slice (some ⟨g1, 0, none⟩) (L + 1) c1, .slice (some ⟨g2, 0, none⟩) (L + 1) c2]) ∧ PrAt w' (w.heap.size + 6) (R.P ++ [(0, R.ne)]) (.slice (some ⟨g1, 0, none⟩) (L + 1) c1) (.slice (some ⟨g2, 0, none⟩) (L + 1) c2) ∧ Bx w' w.heap.size (.slice aa L ca) (.slice ab L cb) R.ne R.sw R.se ∧ Below w.heap.size W w') := fun W h1 h2 => by
        have h9 := tiedB w.heap.size w.heap.size L R.P aa ab ca cb 0 R.ne _ _ _ _ _ _ W h1 HL.out (by omega) h2 h2.d HNA.out.1 HNA.out.2
        rw [spV_P 0, spV_P R.ne] at h9
        exact h9.mono fun e w' ⟨g1, c1, g2, c2, q1, q2, q3, _, _, _, q7⟩ => ⟨g1, c1, g2, c2, q1, q2, q3, q7⟩
      have HT2 : Hid (∀ W ga gb ua ub, PrAt W (w.heap.size + 6) (R.P ++ [(0, R.ne)]) (.slice (some ⟨ga, 0, none⟩) (L + 1) ua) (.slice (some ⟨gb, 0, none⟩) (L + 1) ub) → Bx W w.heap.size (.slice aa L ca) (.slice ab L cb) R.ne R.sw R.se → Calls Try.prog 89 #[.agg #[.slice (some ⟨ga, 0, none⟩) (L + 1) ua, .slice (some ⟨gb, 0, none⟩) (L + 1) ub], .agg #[.int .i64 (spP R.sw).1, .int .i64 (spP R.sw).2], .agg #[.int .i64 (spP R.se).1, .int .i64 (spP R.se).2]] W fun e w' => ∃ g1 c1 g2 c2, e = .returned (.agg #[.slice (some ⟨g1, 0, none⟩) (L + 1 + 1) c1, .slice (some ⟨g2, 0, none⟩) (L + 1 + 1) c2]) ∧ PrAt w' (w.heap.size + 6) (R.P ++ [(0, R.ne)] ++ [(R.sw, R.se)]) (.slice (some ⟨g1, 0, none⟩) (L + 1 + 1) c1) (.slice (some ⟨g2, 0, none⟩) (L + 1 + 1) c2) ∧ Bx w' w.heap.size (.slice aa L ca) (.slice ab L cb) R.ne R.sw R.se ∧ Below w.heap.size W w') := fun W ga gb ua ub h1 h2 => by
        have h9 := tiedB w.heap.size w.heap.size (L + 1) (R.P ++ [(0, R.ne)]) _ _ ua ub R.sw R.se _ _ _ _ _ _ W h1 (by rw [List.length_append, HL.out]; rfl) (by omega) h2 h2.d (fun e => by have := (h1.a.lt _ e).1; omega) (fun e => by have := (h1.b.lt _ e).1; omega)
        rw [spV_P R.sw, spV_P R.se] at h9
        exact h9.mono fun e w' ⟨g1, c1, g2, c2, q1, q2, q3, _, _, _, q7⟩ => ⟨g1, c1, g2, c2, q1, q2, q3, q7⟩
      have HDV : Hid (Bx W1.drew w.heap.size (.slice aa L ca) (.slice ab L cb) R.ne R.sw R.se) := HXV.out.on ((Below.refl _ _).drew.mono HXV.out.size)
      have HPD : Hid (PrAt W1.drew (w.heap.size + 6) R.P (.slice aa L ca) (.slice ab L cb)) := HPV.out.any (grown_below ((Below.refl _ _).drew) none)
      have HBD : Hid (Below w.heap.size w W1.drew) := HBV.out.trans ((Below.refl _ _).drew.mono HBV.out.size)
      clear hs6
      go_upto_region 19 with (fail)
      have t0 : W1.cell? ⟨w.heap.size + 1, 0, none⟩ = some (.slice aa L ca) := block_cell HXV.out.t rfl
      have t1 : W1.cell? ⟨w.heap.size + 1, 1, none⟩ = some (.slice ab L cb) := block_cell HXV.out.t rfl
      have lt : w.heap.size + 1 < W1.heap.size := by have := HXV.out.size; omega
      refine wp_region_held_drew (S := fun w' => w'.cell? ⟨w.heap.size + 1 + 1, 0, none⟩ = some (.int .i64 (spP 0).1) ∧ w'.cell? ⟨w.heap.size + 1 + 1, 1, none⟩ = some (.int .i64 (spP 0).2) ∧ w'.cell? ⟨w.heap.size + 1 + 1 + 1, 0, none⟩ = some (.int .i64 (spP R.ne).1) ∧ w'.cell? ⟨w.heap.size + 1 + 1 + 1, 1, none⟩ = some (.int .i64 (spP R.ne).2) ∧ w'.cell? ⟨w.heap.size + 1 + 1 + 1 + 1, 0, none⟩ = some (.int .i64 (spP R.sw).1) ∧ w'.cell? ⟨w.heap.size + 1 + 1 + 1 + 1, 1, none⟩ = some (.int .i64 (spP R.sw).2) ∧ w'.cell? ⟨w.heap.size + 1 + 1 + 1 + 1 + 1, 0, none⟩ = some (.int .i64 (spP R.se).1) ∧ w'.cell? ⟨w.heap.size + 1 + 1 + 1 + 1 + 1, 1, none⟩ = some (.int .i64 (spP R.se).2)) (by kernel_rfl) (HS.out _ _ _ HDV.out) (fun hHeld => ?_)
      refine wpAnyH_take (i := 1) (v := ?vv1u57) rfl (by kernel_rfl) (by kernel_rfl) (by kernel_rfl) (fun _ _ _ h => h) (Or.inl ⟨by rfl, ?yy1u57⟩) (by assumption) ?rr1u57
      case yy1u57 => (intro w hSw; (try dsimp only at hSw); go_simp; (try with_reducible rfl))
      try simp only [Act.put]
      refine wpAnyH_take (i := 2) (v := ?vv2u58) rfl (by kernel_rfl) (by kernel_rfl) (by kernel_rfl) (fun _ _ _ h => h) (Or.inl ⟨by rfl, ?yy2u58⟩) (by assumption) ?rr2u58
      case yy2u58 => (intro w hSw; (try dsimp only at hSw); go_simp; (try with_reducible rfl))
      try simp only [Act.put]
      refine wpAnyH_take (i := 4) (v := ?vv4u59) rfl (by kernel_rfl) (by kernel_rfl) (by kernel_rfl) (fun _ _ _ h => h) (Or.inl ⟨by rfl, ?yy4u59⟩) (by assumption) ?rr4u59
      case yy4u59 => (intro w hSw; (try dsimp only at hSw); go_simp; (try with_reducible rfl))
      try simp only [Act.put]
      refine wpAnyH_take (i := 5) (v := ?vv5u60) rfl (by kernel_rfl) (by kernel_rfl) (by kernel_rfl) (fun _ _ _ h => h) (Or.inl ⟨by rfl, ?yy5u60⟩) (by assumption) ?rr5u60
      case yy5u60 => (intro w hSw; (try dsimp only at hSw); go_simp; (try with_reducible rfl))
      try simp only [Act.put]
      refine wpAnyH_ready (rs := [0]) (by kernel_rfl) (by simp) ?_
      refine AllReadyH.cons rfl (fun K hK => ?_) AllReadyH.nil
      go_simp
      refine hK.out _ _ (HS.out _ _ _ HDV.out) (fun hHeld => ?_)
      clear hK K
      try simp only [Act.put]
      refine wpAnyH_ready (rs := [3]) (by kernel_rfl) (by simp) ?_
      refine AllReadyH.cons rfl (fun K hK => ?_) AllReadyH.nil
      go_simp
      go_wp2_with (go_at_call 89; refine (HT1.out W1.drew HPD.out HDV.out).mono ?_; rintro e9 w3 ⟨g3, c3, g6, c6, rfl, hp3, hx3, hb3⟩)
      have P3 : Hid (PrAt w3 (w.heap.size + 6) (R.P ++ [(0, R.ne)]) (.slice (some ⟨g3, 0, none⟩) (L + 1) c3) (.slice (some ⟨g6, 0, none⟩) (L + 1) c6)) := hp3
      have H3 : Hid (Bx w3 w.heap.size (.slice aa L ca) (.slice ab L cb) R.ne R.sw R.se) := hx3
      have B3 : Hid (Below w.heap.size w w3) := HBD.out.trans hb3
      clear hp3 hx3 hb3
      refine hK.out _ _ (HS.out _ _ _ H3.out) (fun hHeld => ?_)
      clear hK K
      try simp only [Act.put]
      refine wpAnyH_ready (rs := [6]) (by kernel_rfl) (by simp) ?_
      refine AllReadyH.cons rfl (fun K hK => ?_) AllReadyH.nil
      go_simp
      go_wp2_with (go_at_call 89; refine (HT2.out _ _ _ _ _ P3.out H3.out).mono ?_; rintro e9 w4 ⟨g4, c4, g5, c5, rfl, hp4, hx4, hb4⟩)
      have P4 : Hid (PrAt w4 (w.heap.size + 6) (R.P ++ [(0, R.ne)] ++ [(R.sw, R.se)]) (.slice (some ⟨g4, 0, none⟩) (L + 1 + 1) c4) (.slice (some ⟨g5, 0, none⟩) (L + 1 + 1) c5)) := hp4
      have H4 : Hid (Bx w4 w.heap.size (.slice aa L ca) (.slice ab L cb) R.ne R.sw R.se) := hx4
      have B4 : Hid (Below w.heap.size w w4) := B3.out.trans hb4
      have HZS : Hid (Bx ((w4.setCell ⟨w.heap.size + 1, 0, none⟩ (.slice (some ⟨g4, 0, none⟩) (L + 1 + 1) c4)).setCell ⟨w.heap.size + 1, 1, none⟩ (.slice (some ⟨g5, 0, none⟩) (L + 1 + 1) c5)) w.heap.size (.slice (some ⟨g4, 0, none⟩) (L + 1 + 1) c4) (.slice (some ⟨g5, 0, none⟩) (L + 1 + 1) c5) R.ne R.sw R.se) := hx4.setT _ _
      have r0 : w4.cell? ⟨w.heap.size + 1, 0, none⟩ = some (.slice aa L ca) := block_cell hx4.t rfl
      have r1 : w4.cell? ⟨w.heap.size + 1, 1, none⟩ = some (.slice ab L cb) := block_cell hx4.t rfl
      have f0 : w4.frozen? ⟨w.heap.size + 1, 0, none⟩ = false := froz hx4.t
      have f1 : w4.frozen? ⟨w.heap.size + 1, 1, none⟩ = false := froz hx4.t
      have l4 : w.heap.size + 1 < w4.heap.size := by have := hx4.size; omega
      clear hp4 hx4 hb4
      refine hK.out _ _ (HS.out _ _ _ H4.out) (fun hHeld => ?_)
      clear hK K
      try simp only [Act.put]
      refine wpAnyH_ready (rs := [7]) (by kernel_rfl) (by simp) ?_
      refine AllReadyH.cons rfl (fun K hK => ?_) AllReadyH.nil
      go_simp
      refine hK.out _ _ (HS.out _ _ _ HZS.out) (fun hHeld => ?_)
      clear hK K
      try simp only [Act.put]
      refine wpAnyH_done (by kernel_rfl) ?_ _
      obtain ⟨Z, hZ⟩ : ∃ Z, Z = (w4.setCell ⟨w.heap.size + 1, 0, none⟩ (.slice (some ⟨g4, 0, none⟩) (L + 1 + 1) c4)).setCell ⟨w.heap.size + 1, 1, none⟩ (.slice (some ⟨g5, 0, none⟩) (L + 1 + 1) c5) := ⟨_, rfl⟩
      have ZP : Hid (PrAt Z (w.heap.size + 6) (R.P ++ [(0, R.ne)] ++ [(R.sw, R.se)]) (.slice (some ⟨g4, 0, none⟩) (L + 1 + 1) c4) (.slice (some ⟨g5, 0, none⟩) (L + 1 + 1) c5)) := (by rw [hZ]; exact P4.out.set _ (by omega) _ _)
      have ZX : Hid (Bx Z w.heap.size (.slice (some ⟨g4, 0, none⟩) (L + 1 + 1) c4) (.slice (some ⟨g5, 0, none⟩) (L + 1 + 1) c5) R.ne R.sw R.se) := (by rw [hZ]; exact HZS.out)
      have ZB : Hid (Below w.heap.size w Z) := (by rw [hZ]; exact low_set B4.out B4.out.size (by omega) _ _)
      rw [← hZ]
      clear hZ r0 r1 f0 f1 l4 t0 t1 lt HZS H4 P4 B4 H3 P3 B3 HT1 HT2 HS HDV HPD HBD HXV HPV HNA HBV hHeld
      have hs6 := ZX.out.size
      have t0 : Z.cell? ⟨w.heap.size + 1, 0, none⟩ = some (.slice (some ⟨g4, 0, none⟩) (L + 1 + 1) c4) := block_cell ZX.out.t rfl
      have t1 : Z.cell? ⟨w.heap.size + 1, 1, none⟩ = some (.slice (some ⟨g5, 0, none⟩) (L + 1 + 1) c5) := block_cell ZX.out.t rfl
      have lt : w.heap.size + 1 < Z.heap.size := by omega
      go_wp2_with (go_at_call 90; refine (HWK.out Z _ _ _ _ ZP.out).mono ?_; rintro e9 w5 ⟨a2, c2, rfl, ho5, hb5⟩; refine Hid.out ?_)
      refine Lib.hid ?_
      have t5 := (hb5.block _ (show w.heap.size < Z.heap.size by omega)).trans ZX.out.d
      have HT5 : Hid (w5.heap[w.heap.size]? = some (.cells #[.slice none 0 0, .int .i64 0] 24 (0, 0))) := t5
      have HO5 : Hid (w5.ownsRow Z.heap.size 105 5 (.slice a2 s c2) s (crossCells C)) := ho5
      have HB5 : Hid (Below w.heap.size w w5) := ZB.out.trans (hb5.mono ZB.out.size)
      have d0 : w5.cell? ⟨w.heap.size, 0, none⟩ = some (.slice none 0 0) := block_cell t5 rfl
      have d1 : w5.cell? ⟨w.heap.size, 1, none⟩ = some (.int .i64 0) := block_cell t5 rfl
      have f0 : w5.frozen? ⟨w.heap.size, 0, none⟩ = false := froz t5
      have f1 : w5.frozen? ⟨w.heap.size, 1, none⟩ = false := froz t5
      have l5 := (Array.getElem?_eq_some_iff.1 t5).1
      clear t5 ho5 hb5 t0 t1 lt
      go_wp2
      obtain ⟨X, hX⟩ : ∃ X, X = (w5.setCell ⟨w.heap.size, 0, none⟩ (.slice a2 s c2)).setCell ⟨w.heap.size, 1, none⟩ (.int .i64 k) := ⟨_, rfl⟩
      have hxb : X.heap[w.heap.size]? = some (.cells #[.slice a2 s c2, .int .i64 k] 24 (0, 0)) := by rw [hX]; exact st2_eq HT5.out _ _
      have hgX : w5.grownBy X (some w.heap.size) := by rw [hX]; exact grown_two (set_grown _ _ _ _) (set_grown _ _ _ _)
      rw [← hX]
      have x0 : X.cell? ⟨w.heap.size, 0, none⟩ = some (.slice a2 s c2) := block_cell hxb rfl
      have x1 : X.cell? ⟨w.heap.size, 1, none⟩ = some (.int .i64 k) := block_cell hxb rfl
      have hox : X.ownsRow (w.heap.size + 1) 105 5 (.slice a2 s c2) s (crossCells C) := by
        have h9 := HO5.out.kept hgX (Or.inr fun e => by have := (HO5.out.lt _ e).1; omega)
        refine ⟨h9.1, ?_⟩
        rcases h9.2 with q | ⟨g, cp, cur, q1, q2, q3⟩
        · exact Or.inl q
        · exact Or.inr ⟨g, cp, cur, q1, by omega, q3⟩
      exact bodyPost_ret (v := .agg #[.slice a2 s c2, .int .i64 k]) (by simp [results, Try.results39, go_sem, x0, x1]) rfl ⟨_, _, rfl, hox, HB5.out.grown hgX HB5.out.size (fun q hq => by have := Option.some.inj hq; omega)⟩
end Go.Proofs.Ytphhlflcghffbaa
