/- Several texts of the proof, one behind the other. -/
import Derived.Test.YtlcogbcpmneknaaH4P
/- Helps for the walk of drawing.Of: stores of four and of two cells; the state of its loops. -/
namespace Go.Proofs.Ytlcogbcpmneknaa
open Go.RowKit

theorem set_block {w : World} {g i : Nat} {cs : Array Value} {t : TypeId} {fz : Nat × Nat} {u : Value} (h : w.heap[g]? = some (.cells cs t fz)) : (w.setCell ⟨g, i, none⟩ u).heap[g]? = some (.cells (cs.setIfInBounds i u) t fz) := by
  simp only [World.setCell, Array.getElem?_modify, if_true, h]
  rfl
theorem set_grown (w : World) (g i : Nat) (u : Value) : w.grownBy (w.setCell ⟨g, i, none⟩ u) (some g) :=
  ⟨rfl, rfl, rfl, by simp, fun k _ hk => heap_setCell_other w ⟨g, i, none⟩ k u (fun e => hk (by simp [e]))⟩
theorem grown_trans {a b c : World} {row : Option Nat} (h : a.grownBy b row) (k : b.grownBy c row) : a.grownBy c row :=
  ⟨k.os.trans h.os, k.tape.trans h.tape, k.output.trans h.output, Nat.le_trans h.size k.size, fun j hj hn => (k.block j (Nat.lt_of_lt_of_le hj h.size) hn).trans (h.block j hj hn)⟩
/-- The world behind a store of four cells. -/
def st4 (w : World) (g : Nat) (a b c d : Value) : World := (((w.setCell ⟨g, 0, none⟩ a).setCell ⟨g, 1, none⟩ b).setCell ⟨g, 2, none⟩ c).setCell ⟨g, 3, none⟩ d
theorem st4_grown (w : World) (g : Nat) (a b c d : Value) : w.grownBy (st4 w g a b c d) (some g) :=
  grown_trans (grown_trans (grown_trans (set_grown _ _ _ _) (set_grown _ _ _ _)) (set_grown _ _ _ _)) (set_grown _ _ _ _)
theorem st4_block {w : World} {g : Nat} {t : TypeId} {a0 b0 c0 d0 a b c d : Value} (h : w.heap[g]? = some (.cells #[a0, b0, c0, d0] t (0, 0))) : (st4 w g a b c d).heap[g]? = some (.cells #[a, b, c, d] t (0, 0)) := by
  unfold st4
  rw [set_block (set_block (set_block (set_block h)))]
  rfl
theorem st4_cell {w : World} {g h o : Nat} {v a b c d : Value} (hne : h ≠ g) (hc : w.cell? ⟨h, o, none⟩ = some v) : ((((w.setCell ⟨g, 0, none⟩ a).setCell ⟨g, 1, none⟩ b).setCell ⟨g, 2, none⟩ c).setCell ⟨g, 3, none⟩ d).cell? ⟨h, o, none⟩ = some v :=
  (st4_grown w g a b c d).cell (a := ⟨h, o, none⟩) hc (fun e => hne (Option.some.inj e))
theorem block_cell {w : World} {g i : Nat} {cs : Array Value} {t : TypeId} {fz : Nat × Nat} {v : Value} (h : w.heap[g]? = some (.cells cs t fz)) (hv : cs[i]? = some v) : w.cell? ⟨g, i, none⟩ = some v := by
  unfold World.cell?
  rw [h]
  simpa using hv
theorem block_frozen {w : World} {g i : Nat} {cs : Array Value} {t : TypeId} (h : w.heap[g]? = some (.cells cs t (0, 0))) : w.frozen? ⟨g, i, none⟩ = false := by simp [World.frozen?, h]
/-- A row that is not empty has a block. -/
theorem own_block {w : World} {B e s n : Nat} {v : Value} {xs : List Value} (h : w.ownsRow B e s v n xs) (hn : 0 < n) : ∃ g c, v = .slice (some ⟨g, 0, none⟩) n c ∧ B ≤ g ∧ g < w.heap.size := by
  rcases h.2 with ⟨_, h0⟩ | ⟨g, cap, cur, rfl, hb, hg, _⟩
  · omega
  · exact ⟨g, cap, rfl, (h.lt g rfl).1, (h.lt g rfl).2⟩

/-- Two lists of spots, where the walk of Of stands at side k of crossing i. -/
structure OfAt (sz gF cF gT cT : Nat) (A : Value) (loops : Int) (C : List Cr) (i k : Nat) (wr : World) : Prop where
  dia : wr.heap[sz]? = some (.cells #[A, .int .i64 loops] 24 (0, 0))
  dra : wr.heap[sz + 1]? = some (.cells #[A, .int .i64 loops, .slice (some ⟨gF, 0, none⟩) (2 * C.length + 1) cF, .slice (some ⟨gT, 0, none⟩) (2 * C.length + 1) cT] 39 (0, 0))
  from_ : wr.ownsRow (sz + 2) 90 2 (.slice (some ⟨gF, 0, none⟩) (2 * C.length + 1) cF) (2 * C.length + 1) (flat (ends C false i k))
  to : wr.ownsRow (sz + 2) 90 2 (.slice (some ⟨gT, 0, none⟩) (2 * C.length + 1) cT) (2 * C.length + 1) (flat (ends C true i k))
  ne : gF ≠ gT
theorem OfAt.on {sz gF cF gT cT : Nat} {A : Value} {loops : Int} {C : List Cr} {i k : Nat} {w w' : World} (h : OfAt sz gF cF gT cT A loops C i k w) (hb : Below w.heap.size w w') (hs : sz + 1 < w.heap.size) : OfAt sz gF cF gT cT A loops C i k w' :=
  ⟨(hb.block _ (by omega)).trans h.dia, (hb.block _ hs).trans h.dra, own_any h.from_ (grown_below hb none), own_any h.to (grown_below hb none), h.ne⟩
theorem OfAt.row {sz gF cF gT cT : Nat} {A : Value} {loops : Int} {C : List Cr} {i : Nat} {w : World} (h : OfAt sz gF cF gT cT A loops C i 4 w) : OfAt sz gF cF gT cT A loops C (i + 1) 0 w := ⟨h.dia, h.dra, h.from_, h.to, h.ne⟩
theorem flat_set2 (l : List (Int × Int)) (a : Nat) (i k : Int) (ha : a < l.length) : ((flat l).set (a * 2) (.int .i64 i)).set (a * 2 + 1) (.int .i64 k) = flat (l.set a (i, k)) := by
  rw [flat_setE _ _ _ ha, flat_setC _ _ _ (by rw [setE_length]; exact ha)]
  congr 1
  unfold setC setE
  rw [List.set_set]
  congr 1
  simp [List.getD, ha]
/-- The world behind a store of two cells. -/
def st2 (w : World) (g o : Nat) (a b : Value) : World := (w.setCell ⟨g, o, none⟩ a).setCell ⟨g, o + 1, none⟩ b
theorem st2_grown (w : World) (g o : Nat) (a b : Value) : w.grownBy (st2 w g o a b) (some g) := grown_trans (set_grown _ _ _ _) (set_grown _ _ _ _)
theorem own_st2 {w : World} {B e n g cap a : Nat} {l : List (Int × Int)} {i k : Int} (h : w.ownsRow B e 2 (.slice (some ⟨g, 0, none⟩) n cap) n (flat l)) (ha : a < l.length) : (st2 w g (a * 2) (.int .i64 i) (.int .i64 k)).ownsRow B e 2 (.slice (some ⟨g, 0, none⟩) n cap) n (flat (l.set a (i, k))) := by
  have h1 := (h.stored (a * 2) (.int .i64 i)).1
  have h2 := (h1.stored (a * 2 + 1) (.int .i64 k)).1
  rw [flat_set2 l a i k ha] at h2
  exact h2
theorem OfAt.storeT {sz gF cF gT cT a : Nat} {A : Value} {loops : Int} {C : List Cr} {i k : Nat} {w : World} (h : OfAt sz gF cF gT cT A loops C i k w) (h1 : 1 ≤ a) (h2 : a ≤ 2 * C.length) (hc : (C.getD i Cr.none).comes k = true) (ha : (C.getD i Cr.none).arc k = (a : Int)) : OfAt sz gF cF gT cT A loops C i (k + 1) (st2 w gT (a * 2) (.int .i64 (i : Nat)) (.int .i64 (k : Nat))) := by
  have hg := st2_grown w gT (a * 2) (.int .i64 (i : Nat)) (.int .i64 (k : Nat))
  have hT := (h.to.lt gT rfl)
  have hF := (h.from_.lt gF rfl)
  refine ⟨(hg.block _ (by omega) (fun e => by have := Option.some.inj e; omega)).trans h.dia, (hg.block _ (by omega) (fun e => by have := Option.some.inj e; omega)).trans h.dra, ?_, ?_, h.ne⟩
  · rw [ends_keep C false i k (by rw [hc]; decide)]
    exact h.from_.kept hg (Or.inr (fun e => h.ne (Option.some.inj e)))
  · rw [← ends_set C true i k a h1 hc ha]
    exact own_st2 h.to (by rw [ends_length]; omega)
theorem OfAt.storeF {sz gF cF gT cT a : Nat} {A : Value} {loops : Int} {C : List Cr} {i k : Nat} {w : World} (h : OfAt sz gF cF gT cT A loops C i k w) (h1 : 1 ≤ a) (h2 : a ≤ 2 * C.length) (hc : (C.getD i Cr.none).comes k = false) (ha : (C.getD i Cr.none).arc k = (a : Int)) : OfAt sz gF cF gT cT A loops C i (k + 1) (st2 w gF (a * 2) (.int .i64 (i : Nat)) (.int .i64 (k : Nat))) := by
  have hg := st2_grown w gF (a * 2) (.int .i64 (i : Nat)) (.int .i64 (k : Nat))
  have hT := (h.to.lt gT rfl)
  have hF := (h.from_.lt gF rfl)
  refine ⟨(hg.block _ (by omega) (fun e => by have := Option.some.inj e; omega)).trans h.dia, (hg.block _ (by omega) (fun e => by have := Option.some.inj e; omega)).trans h.dra, ?_, ?_, h.ne⟩
  · rw [← ends_set C false i k a h1 hc ha]
    exact own_st2 h.from_ (by rw [ends_length]; omega)
  · rw [ends_keep C true i k (by rw [hc]; decide)]
    exact h.to.kept hg (Or.inr (fun e => h.ne (Option.some.inj e).symm))
theorem index_arr (x : Cr) (k : Nat) (hk : k < 4) (w : World) : (Instr.index 98 (.agg #[.int .i64 x.a, .int .i64 x.b, .int .i64 x.c, .int .i64 x.d]) (.int .i64 (k : Nat))).run Try.prog w = .ok (.int .i64 (x.arc k)) w := by
  have hk4 : k = 0 ∨ k = 1 ∨ k = 2 ∨ k = 3 := by omega
  rcases hk4 with rfl | rfl | rfl | rfl <;> simp [Instr.index, asIntOf, run_underlying Try.underlying98, go_sem, Cr.arc]

/-- What drawing.Of answers. -/
structure Drawn (w w' : World) (B : Nat) (A : Value) (loops : Int) (C : List Cr) (D : Value) : Prop where
  no : mayD C loops = false → D = noDrawing
  yes : mayD C loops = true → ∃ gF cF gT cT, D = .agg #[A, .int .i64 loops, .slice (some ⟨gF, 0, none⟩) (2 * C.length + 1) cF, .slice (some ⟨gT, 0, none⟩) (2 * C.length + 1) cT] ∧
    w'.ownsRow B 90 2 (.slice (some ⟨gF, 0, none⟩) (2 * C.length + 1) cF) (2 * C.length + 1) (flat (ends C false C.length 0)) ∧
    w'.ownsRow B 90 2 (.slice (some ⟨gT, 0, none⟩) (2 * C.length + 1) cT) (2 * C.length + 1) (flat (ends C true C.length 0))
end Go.Proofs.Ytlcogbcpmneknaa
/- The walk of ref.EndOf. -/
namespace Go.Proofs.Ytlcogbcpmneknaa
open Go.RowKit

theorem may_size {C : List Cr} {loops : Int} (hm : mayD C loops = true) : sizeB C loops = true := by
  cases hs : sizeB C loops with
  | true => rfl
  | false => rw [mayD_size hs] at hm; cases hm

set_option maxHeartbeats 4000000 in
set_option maxRecDepth 100000 in
theorem endOf_any {lm : Int} (b off cap : Nat) (C : List Cr) (loops : Int) (a : Nat) (back : Bool) (w : World) (hm : mayD C lm = true) (h1 : 1 ≤ a) (h2 : a ≤ 2 * C.length) (hbw : b < w.heap.size) (hC : CrossAt w b off C) :
    Calls Try.prog 23 #[.agg #[.slice (some ⟨b, off, none⟩) C.length cap, .int .i64 loops], .int .i64 a, .bool back] w fun e w' => e = .returned (.agg #[.int .i64 (endTo C a (!back) C.length).1, .int .i64 (endTo C a (!back) C.length).2]) ∧ Below w.heap.size w w' := by
  have HM : Hid (mayD C lm = true) := hm
  obtain ⟨s1, -, -, -⟩ := sizeB_iff (may_size hm)
  have HC : Hid (CrossAt w b off C) := hC
  clear hm hC
  obtain ⟨w1, hw1⟩ : ∃ w1, w1 = (w.alloc (.cells #[.slice (some ⟨b, off, none⟩) C.length cap, .int .i64 loops] 24)).alloc (.cells #[.int .i64 0, .int .i64 0] 56) := ⟨_, rfl⟩
  have hsz1 : w1.heap.size = w.heap.size + 2 := by rw [hw1]; simp
  have HT1 : Hid (w1.heap[w.heap.size]? = some (.cells #[.slice (some ⟨b, off, none⟩) C.length cap, .int .i64 loops] 24 (0, 0))) := (by rw [hw1]; exact ((World.grownBy_alloc _ _ none).block w.heap.size (by simp) (by simp)).trans Array.getElem?_push_size : w1.heap[w.heap.size]? = some (.cells #[.slice (some ⟨b, off, none⟩) C.length cap, .int .i64 loops] 24 (0, 0)))
  have HT2 : Hid (w1.heap[w.heap.size + 1]? = some (.cells #[.int .i64 0, .int .i64 0] 56 (0, 0))) := (by
    rw [hw1]
    have e : w.heap.size + 1 = (w.alloc (.cells #[.slice (some ⟨b, off, none⟩) C.length cap, .int .i64 loops] 24)).heap.size := by simp
    rw [e]
    exact Array.getElem?_push_size : w1.heap[w.heap.size + 1]? = some (.cells #[.int .i64 0, .int .i64 0] 56 (0, 0)))
  have HE0 : Hid (w1.cell? ⟨w.heap.size, 0, none⟩ = some (.slice (some ⟨b, off, none⟩) C.length cap)) := block_cell HT1.out rfl
  have HE1 : Hid (w1.cell? ⟨w.heap.size, 1, none⟩ = some (.int .i64 loops)) := block_cell HT1.out rfl
  have HB1 : Hid (Below w.heap.size w w1) := (by rw [hw1]; exact below2 _ _ _ : Below w.heap.size w w1)
  have HC1 : Hid (CrossAt w1 b off C) := HC.out.on HB1.out hbw
  have HW1 : Hid (w1 = (w.alloc (.cells #[.slice (some ⟨b, off, none⟩) C.length cap, .int .i64 loops] 24)).alloc (.cells #[.int .i64 0, .int .i64 0] 56)) := hw1
  clear hw1
  go_enter Try.func23, Try.ntmps23
  go_wp2
  go_loopw [7] (fun v7 wr => ∃ i : Nat, i ≤ C.length ∧ v7 = .int .i64 i ∧ Hid (∀ i' k' : Nat, i' < i → k' < 4 → ¬((C.getD i' Cr.none).arc k' = (a : Int) ∧ (C.getD i' Cr.none).comes k' = !back)) ∧ Below w1.heap.size w1 wr) (fun v7 _ => C.length - (intOf v7).toNat)
  case atStart => exact ⟨0, Nat.zero_le _, rfl, fun i' k' hi => absurd hi (Nat.not_lt_zero _), by rw [← HW1.out]; exact Below.refl _ _⟩
  case round =>
    rename World => W1
    obtain ⟨i, hi, rfl, hno, hb⟩ := hrel
    have hszW := hb.size
    have c0 := bcell hb (by omega) HE0.out
    have c1 := bcell hb (by omega) HE1.out
    by_cases hil : i < C.length
    · have hdi : decide ((i : Int) < (C.length : Int)) = true := by simp; omega
      have hdi2 : decide (i < C.length) = true := by simp; omega
      go_wp2
      clear c0 c1
      go_loopw [8] (fun v8 ws => ∃ k : Nat, k ≤ 4 ∧ v8 = .int .i64 k ∧ Hid (∀ k' : Nat, k' < k → ¬((C.getD i Cr.none).arc k' = (a : Int) ∧ (C.getD i Cr.none).comes k' = !back)) ∧ Below w1.heap.size w1 ws) (fun v8 _ => 4 - (intOf v8).toNat)
      case atStart => exact ⟨0, Nat.zero_le _, rfl, fun k' hk => absurd hk (Nat.not_lt_zero _), hb⟩
      case round =>
        clear hb
        rename World => W3
        obtain ⟨k, hk, rfl, hnk, hb⟩ := hrel
        have hszY := hb.size
        by_cases hkl : k < 4
        · have HF : Hid (∀ wX, Below (W3.alloc (.cells #[.int .i64 i, .int .i64 k] 56)).heap.size (W3.alloc (.cells #[.int .i64 i, .int .i64 k] 56)) wX → wX.cell? ⟨w.heap.size, 0, none⟩ = some (.slice (some ⟨b, off, none⟩) C.length cap) ∧ wX.cell? ⟨w.heap.size, 1, none⟩ = some (.int .i64 loops) ∧
              wX.cell? ⟨W3.heap.size, 0, none⟩ = some (.int .i64 i) ∧ wX.cell? ⟨W3.heap.size, 1, none⟩ = some (.int .i64 k) ∧ w.heap.size < wX.heap.size ∧ W3.heap.size < wX.heap.size ∧ b < wX.heap.size ∧ CrossAt wX b off C) := fun wX hX => by
            have hB : Below w1.heap.size w1 wX := (hb.alloc hszY _).trans (hX.mono (by simp; omega))
            have hsX := hX.size
            simp only [World.size_alloc] at hsX
            have hT : wX.heap[W3.heap.size]? = some (.cells #[.int .i64 i, .int .i64 k] 56 (0, 0)) := (hX.block _ (by simp)).trans Array.getElem?_push_size
            exact ⟨bcell hB (by omega) HE0.out, bcell hB (by omega) HE1.out, block_cell hT rfl, block_cell hT rfl, by omega, by omega, by omega, HC1.out.on hB (by omega)⟩
          have c0 := bcell hb (by omega) HE0.out
          have c1 := bcell hb (by omega) HE1.out
          have hbs : w.heap.size < W3.heap.size := by omega
          have HB0 : Hid (Below (W3.alloc (.cells #[.int .i64 i, .int .i64 k] 56)).heap.size (W3.alloc (.cells #[.int .i64 i, .int .i64 k] 56)) (W3.alloc (.cells #[.int .i64 i, .int .i64 k] 56))) := Below.refl _ _
          have HBN : Hid (∀ wX, Below (W3.alloc (.cells #[.int .i64 i, .int .i64 k] 56)).heap.size (W3.alloc (.cells #[.int .i64 i, .int .i64 k] 56)) wX → Below w1.heap.size w1 wX) := fun wX hX => (hb.alloc hszY _).trans (hX.mono (by simp; omega))
          obtain ⟨av, hav⟩ : ∃ av, (C.getD i Cr.none).arc k = av := ⟨_, rfl⟩
          obtain ⟨cv, hcv⟩ : ∃ cv, (C.getD i Cr.none).comes k = cv := ⟨_, rfl⟩
          have HAR : Hid ((C.getD i Cr.none).arc k = av) := hav
          have HCO : Hid ((C.getD i Cr.none).comes k = cv) := hcv
          clear hav hcv hb
          by_cases heq : av = (a : Int)
          · subst heq
            go_wp2_with (go_at_call 24; refine (arcAt_any b off cap loops C i k _ hil hkl (HF.out _ HB0.out).2.2.2.2.2.2.1 (HF.out _ HB0.out).2.2.2.2.2.2.2).mono ?_; rw [HAR.out]; rintro e9 w4 ⟨rfl, hb4⟩; refine Hid.out ?_)
            refine Lib.hid ?_
            have HB4 : Hid (Below (W3.alloc (.cells #[.int .i64 i, .int .i64 k] 56)).heap.size (W3.alloc (.cells #[.int .i64 i, .int .i64 k] 56)) w4) := hb4
            obtain ⟨p0, p1, q0, q1, r0, r1, -, -⟩ := HF.out w4 HB4.out
            clear hb4 c0 c1
            go_wp2_with (go_at_call 39; refine (entry_any b off cap loops C i k _ hil hkl (HF.out _ HB4.out).2.2.2.2.2.2.1 (HF.out _ HB4.out).2.2.2.2.2.2.2).mono ?_; rw [HCO.out]; rintro e9 w5 ⟨rfl, hb5⟩; refine Hid.out ?_)
            refine Lib.hid ?_
            clear p0 p1 q0 q1 r0 r1
            have HB5 : Hid (Below (W3.alloc (.cells #[.int .i64 i, .int .i64 k] 56)).heap.size (W3.alloc (.cells #[.int .i64 i, .int .i64 k] 56)) w5) := HB4.out.trans (hb5.mono HB4.out.size)
            obtain ⟨p0, p1, q0, q1, r0, r1, -, -⟩ := HF.out w5 HB5.out
            clear hb5
            by_cases hcb : cv = !back
            · have hd : (cv != back) = true := by rw [hcb]; cases back <;> rfl
              have HEQ : Hid (endTo C a (!back) C.length = ((i : Int), (k : Int))) := end_one HM.out a h1 h2 (!back) i k hil hkl HAR.out (by rw [HCO.out]; exact hcb)
              have HT5 : Hid (w5.heap[w.heap.size + 1]? = some (.cells #[.int .i64 0, .int .i64 0] 56 (0, 0))) := ((HBN.out _ HB5.out).block _ (by omega)).trans HT2.out
              have z0 : w5.cell? ⟨w.heap.size + 1, 0, none⟩ = some (.int .i64 0) := block_cell HT5.out rfl
              have z1 : w5.cell? ⟨w.heap.size + 1, 1, none⟩ = some (.int .i64 0) := block_cell HT5.out rfl
              have f0 : w5.frozen? ⟨w.heap.size + 1, 0, none⟩ = false := block_frozen HT5.out
              have f1 : w5.frozen? ⟨w.heap.size + 1, 1, none⟩ = false := block_frozen HT5.out
              go_wp2
              have hX := set_block (i := 1) (u := .int .i64 k) (set_block (i := 0) (u := .int .i64 i) HT5.out)
              have x0 := block_cell (i := 0) (v := .int .i64 i) hX rfl
              have x1 := block_cell (i := 1) (v := .int .i64 k) hX rfl
              refine bodyPost_ret (v := .agg #[.int .i64 i, .int .i64 k]) (by simp [results, Try.results23, go_sem, x0, x1]) rfl ⟨by rw [HEQ.out], ?_⟩
              exact (HB1.out.trans ((HBN.out _ HB5.out).mono (by omega))).grown (st2_grown w5 (w.heap.size + 1) 0 (.int .i64 i) (.int .i64 k)) (by have := (HBN.out _ HB5.out).size; omega) (fun k hk => by have := Option.some.inj hk; omega)
            · have hd : cv = back := by cases cv <;> cases back <;> simp_all
              subst hd
              cases cv
              · go_wp2
                go_roundw
                case rel =>
                  refine ⟨k + 1, by omega, by go_num, fun k' hk' => ?_, HBN.out _ HB5.out⟩
                  by_cases e : k' = k
                  · rw [e, HCO.out]; exact fun h => hcb h.2
                  · exact hnk.out k' (by omega)
                case measure => simp only [intOf]; omega
              · go_wp2
                go_roundw
                case rel =>
                  refine ⟨k + 1, by omega, by go_num, fun k' hk' => ?_, HBN.out _ HB5.out⟩
                  by_cases e : k' = k
                  · rw [e, HCO.out]; exact fun h => hcb h.2
                  · exact hnk.out k' (by omega)
                case measure => simp only [intOf]; omega
          · have dA1 : (av == (a : Int)) = false := by rw [beq_eq_false_iff_ne]; exact heq
            go_wp2_with (go_at_call 24; refine (arcAt_any b off cap loops C i k _ hil hkl (HF.out _ HB0.out).2.2.2.2.2.2.1 (HF.out _ HB0.out).2.2.2.2.2.2.2).mono ?_; rw [HAR.out]; rintro e9 w4 ⟨rfl, hb4⟩; refine Hid.out ?_)
            refine Lib.hid ?_
            have HB4 : Hid (Below (W3.alloc (.cells #[.int .i64 i, .int .i64 k] 56)).heap.size (W3.alloc (.cells #[.int .i64 i, .int .i64 k] 56)) w4) := hb4
            clear hb4 c0 c1
            go_wp2
            go_roundw
            case rel =>
              refine ⟨k + 1, by omega, by go_num, fun k' hk' => ?_, HBN.out _ HB4.out⟩
              by_cases e : k' = k
              · rw [e, HAR.out]; exact fun h => heq h.1
              · exact hnk.out k' (by omega)
            case measure => simp only [intOf]; omega
        · obtain rfl : k = 4 := by omega
          go_wp2
          go_roundw
          case rel =>
            refine ⟨i + 1, by omega, by go_num, fun i' k' hi' hk' => ?_, hb⟩
            by_cases e : i' = i
            · rw [e]; exact hnk.out k' hk'
            · exact hno.out i' k' (by omega) hk'
          case measure => simp only [intOf]; omega
    · obtain ⟨i', k', g1, g2, g3, g4, -⟩ := end_may HM.out a h1 h2 (!back)
      exact absurd ⟨g3, g4⟩ (hno.out i' k' (by omega) g2)
end Go.Proofs.Ytlcogbcpmneknaa
/- Plain mathematics: what edges join; labels that are levelled along edges, round by round, come to the least of what is joined. -/
namespace Go.Proofs.Ytlcogbcpmneknaa

def Closed (E : List (Nat × Nat)) (S : Nat → Prop) : Prop := ∀ e, e ∈ E → (S e.1 ↔ S e.2)
/-- Joined by edges. -/
def Con (E : List (Nat × Nat)) (x y : Nat) : Prop := ∀ S, Closed E S → S x → S y
theorem Con.refl (E : List (Nat × Nat)) (x : Nat) : Con E x x := fun _ _ h => h
theorem Con.trans {E : List (Nat × Nat)} {x y z : Nat} (h : Con E x y) (g : Con E y z) : Con E x z := fun S hS hx => g S hS (h S hS hx)
theorem Con.symm {E : List (Nat × Nat)} {x y : Nat} (h : Con E x y) : Con E y x := fun S hS hy =>
  Classical.byContradiction fun hx => h (fun z => ¬ S z) (fun e he => not_congr (hS e he)) hx hy
theorem Con.edge {E : List (Nat × Nat)} {x y : Nat} (h : (x, y) ∈ E) : Con E x y := fun _ hS hx => (hS (x, y) h).1 hx
theorem con_min (E : List (Nat × Nat)) (v : Nat) : ∃ m, Con E v m ∧ ∀ u, Con E v u → m ≤ u := by
  have key : ∀ k x, x ≤ k → Con E v x → ∃ m, Con E v m ∧ ∀ u, Con E v u → m ≤ u := by
    intro k
    induction k with
    | zero => intro x hx h; exact ⟨x, h, fun u _ => by omega⟩
    | succ k ih =>
      intro x hx h
      by_cases hs : ∃ y, y < x ∧ Con E v y
      · obtain ⟨y, hy, hc⟩ := hs
        exact ih y (by omega) hc
      · exact ⟨x, h, fun u hu => Nat.le_of_not_lt fun hlt => hs ⟨u, hlt, hu⟩⟩
  exact key v v (Nat.le_refl _) (Con.refl E v)

/-- One edge levelled. -/
def lev (W : List Nat) (x y : Nat) : List Nat := if W.getD x 0 < W.getD y 0 then W.set y (W.getD x 0) else W.set x (W.getD y 0)
theorem lev_len (W : List Nat) (x y : Nat) : (lev W x y).length = W.length := by unfold lev; split <;> simp
theorem getD_set (W : List Nat) (i v z : Nat) (hi : i < W.length) : (W.set i z).getD v 0 = if v = i then z else W.getD v 0 := by
  simp only [List.getD_eq_getElem?_getD, List.getElem?_set]
  by_cases h : i = v
  · subst h; simp [hi]
  · simp [h, Ne.symm h]
/-- Labels under way: none greater than its place, and of what is joined to it. -/
structure Lab (E : List (Nat × Nat)) (n : Nat) (W : List Nat) : Prop where
  len : W.length = n
  le : ∀ v, v < n → W.getD v 0 ≤ v
  con : ∀ v, v < n → Con E v (W.getD v 0)
theorem lev_at {W : List Nat} {x y v : Nat} (hx : x < W.length) (hy : y < W.length) : (lev W x y).getD v 0 ≤ W.getD v 0 ∧ ((lev W x y).getD v 0 = W.getD v 0 ∨ (v = x ∧ (lev W x y).getD v 0 = W.getD y 0) ∨ (v = y ∧ (lev W x y).getD v 0 = W.getD x 0)) := by
  unfold lev
  split
  · rw [getD_set _ _ _ _ hy]
    split
    · subst v; exact ⟨by omega, Or.inr (Or.inr ⟨rfl, rfl⟩)⟩
    · exact ⟨Nat.le_refl _, Or.inl rfl⟩
  · rw [getD_set _ _ _ _ hx]
    split
    · subst v; exact ⟨by omega, Or.inr (Or.inl ⟨rfl, rfl⟩)⟩
    · exact ⟨Nat.le_refl _, Or.inl rfl⟩
theorem lev_both {W : List Nat} {x y : Nat} (hx : x < W.length) (hy : y < W.length) : (lev W x y).getD x 0 ≤ W.getD y 0 ∧ (lev W x y).getD y 0 ≤ W.getD x 0 := by
  unfold lev
  split
  · rename_i h
    rw [getD_set _ _ _ _ hy, getD_set _ _ _ _ hy, if_pos rfl]
    refine ⟨?_, Nat.le_refl _⟩
    split <;> omega
  · rename_i h
    rw [getD_set _ _ _ _ hx, getD_set _ _ _ _ hx, if_pos rfl]
    refine ⟨Nat.le_refl _, ?_⟩
    split <;> omega
theorem Lab.lev {E : List (Nat × Nat)} {n : Nat} {W : List Nat} (h : Lab E n W) {x y : Nat} (hx : x < n) (hy : y < n) (he : Con E x y) : Lab E n (lev W x y) := by
  have hl := h.len
  refine ⟨by rw [lev_len, hl], fun v hv => ?_, fun v hv => ?_⟩
  · have := (lev_at (W := W) (x := x) (y := y) (v := v) (by omega) (by omega)).1
    have := h.le v hv
    omega
  · rcases (lev_at (W := W) (x := x) (y := y) (v := v) (by omega) (by omega)).2 with e | ⟨hvx, e⟩ | ⟨hvy, e⟩
    · rw [e]; exact h.con v hv
    · rw [e, hvx]; exact he.trans (h.con y hy)
    · rw [e, hvy]; exact he.symm.trans (h.con x hx)
/-- Levelled along edges, one behind the other. -/
def levs (W : List Nat) : List (Nat × Nat) → List Nat
  | [] => W
  | e :: E => levs (lev W e.1 e.2) E
theorem levs_app (W : List Nat) (E F : List (Nat × Nat)) : levs W (E ++ F) = levs (levs W E) F := by
  induction E generalizing W with
  | nil => rfl
  | cons e E ih => exact ih _
def Done (E : List (Nat × Nat)) (W : List Nat) (v : Nat) : Prop := ∀ u, Con E v u → W.getD v 0 ≤ u
theorem levs_lab {E : List (Nat × Nat)} {n : Nat} (F : List (Nat × Nat)) (hF : ∀ e, e ∈ F → e.1 < n ∧ e.2 < n ∧ Con E e.1 e.2) : ∀ W, Lab E n W → Lab E n (levs W F) ∧ ∀ v, (levs W F).getD v 0 ≤ W.getD v 0 := by
  induction F with
  | nil => intro W h; exact ⟨h, fun v => Nat.le_refl _⟩
  | cons e F ih =>
    intro W h
    obtain ⟨h1, h2, h3⟩ := hF e (List.Mem.head _)
    have hl := h.len
    have h' := h.lev h1 h2 h3
    obtain ⟨g1, g2⟩ := ih (fun e' he' => hF e' (List.Mem.tail _ he')) _ h'
    exact ⟨g1, fun v => Nat.le_trans (g2 v) (lev_at (by omega) (by omega)).1⟩
/-- Where one end of an edge is done ahead of a round, both are behind it. -/
theorem levs_done {E : List (Nat × Nat)} {n : Nat} (F : List (Nat × Nat)) (hF : ∀ e, e ∈ F → e.1 < n ∧ e.2 < n ∧ Con E e.1 e.2) (e : Nat × Nat) (he : e ∈ F) : ∀ W, Lab E n W → (Done E W e.1 ∨ Done E W e.2) → Done E (levs W F) e.1 ∧ Done E (levs W F) e.2 := by
  induction F with
  | nil => cases he
  | cons f F ih =>
    intro W h hd
    obtain ⟨h1, h2, h3⟩ := hF f (List.Mem.head _)
    have hl := h.len
    have h' := h.lev h1 h2 h3
    have hF' : ∀ e, e ∈ F → e.1 < n ∧ e.2 < n ∧ Con E e.1 e.2 := fun e' he' => hF e' (List.Mem.tail _ he')
    rcases List.mem_cons.1 he with rfl | he'
    · have g : ∀ v, (levs W (e :: F)).getD v 0 ≤ (lev W e.1 e.2).getD v 0 := (levs_lab F hF' _ h').2
      have hb := lev_both (W := W) (x := e.1) (y := e.2) (by omega) (by omega)
      have ha1 := (lev_at (W := W) (x := e.1) (y := e.2) (v := e.1) (by omega) (by omega)).1
      have ha2 := (lev_at (W := W) (x := e.1) (y := e.2) (v := e.2) (by omega) (by omega)).1
      rcases hd with hd | hd
      · exact ⟨fun u hu => by have := hd u hu; have := g e.1; omega, fun u hu => by have := hd u (h3.trans hu); have := g e.2; omega⟩
      · exact ⟨fun u hu => by have := hd u (h3.symm.trans hu); have := g e.1; omega, fun u hu => by have := hd u hu; have := g e.2; omega⟩
    · refine ih hF' he' _ h' ?_
      rcases hd with hd | hd
      · exact Or.inl fun u hu => Nat.le_trans (lev_at (by omega) (by omega)).1 (hd u hu)
      · exact Or.inr fun u hu => Nat.le_trans (lev_at (by omega) (by omega)).1 (hd u hu)
def levR (W : List Nat) (E : List (Nat × Nat)) : Nat → List Nat
  | 0 => W
  | r + 1 => levs (levR W E r) E
theorem levR_lab {E : List (Nat × Nat)} {n : Nat} (hE : ∀ e, e ∈ E → e.1 < n ∧ e.2 < n) {W : List Nat} (h : Lab E n W) (r : Nat) : Lab E n (levR W E r) := by
  induction r with
  | zero => exact h
  | succ r ih => exact (levs_lab E (fun e he => ⟨(hE e he).1, (hE e he).2, Con.edge he⟩) _ ih).1
theorem countP_more {p q : Nat → Bool} (l : List Nat) (h : ∀ x, p x = true → q x = true) (y : Nat) (hy : y ∈ l) (h1 : p y = false) (h2 : q y = true) : l.countP p < l.countP q := by
  induction l with
  | nil => cases hy
  | cons x l ih =>
    have hm : l.countP p ≤ l.countP q := List.countP_mono_left (fun a _ => h a)
    rcases List.mem_cons.1 hy with rfl | hy'
    · simp [h1, h2]; omega
    · have := ih hy'
      simp only [List.countP_cons]
      have : (if p x = true then 1 else 0) ≤ (if q x = true then 1 else (0 : Nat)) := by
        by_cases hp : p x = true
        · simp [hp, h x hp]
        · simp [hp]
      omega
open Classical in
theorem levR_done {E : List (Nat × Nat)} {n : Nat} (hE : ∀ e, e ∈ E → e.1 < n ∧ e.2 < n) {W : List Nat} (h : Lab E n W) (r : Nat) : (∀ v, v < n → Done E (levR W E r) v) ∨ r ≤ (List.range n).countP (fun v => decide (Done E (levR W E r) v)) := by
  induction r with
  | zero => exact Or.inr (Nat.zero_le _)
  | succ r ih =>
    have hF : ∀ e, e ∈ E → e.1 < n ∧ e.2 < n ∧ Con E e.1 e.2 := fun e he => ⟨(hE e he).1, (hE e he).2, Con.edge he⟩
    have hl := levR_lab hE h r
    have hg := (levs_lab E hF _ hl).2
    have hmono : ∀ v, Done E (levR W E r) v → Done E (levR W E (r + 1)) v := fun v hd u hu => Nat.le_trans (hg v) (hd u hu)
    by_cases hall : ∀ v, v < n → Done E (levR W E r) v
    · exact Or.inl fun v hv => hmono v (hall v hv)
    · right
      have hr : r ≤ (List.range n).countP (fun v => decide (Done E (levR W E r) v)) := by
        rcases ih with h1 | h1
        · exact absurd h1 hall
        · exact h1
      obtain ⟨v, hv⟩ := Classical.not_forall.1 hall
      have hvn : v < n := Classical.byContradiction fun hc => hv fun hh => absurd hh hc
      have hvd : ¬ Done E (levR W E r) v := fun hd => hv fun _ => hd
      obtain ⟨m, hm1, hm2⟩ := con_min E v
      have hmn : m < n := Nat.lt_of_le_of_lt (hm2 v (Con.refl E v)) hvn
      have hmd : Done E (levR W E r) m := fun u hu => Nat.le_trans (hl.le m hmn) (hm2 u (hm1.trans hu))
      -- a done and an undone end of an edge
      have hex : ∃ e, e ∈ E ∧ ((Done E (levR W E r) e.1 ∧ ¬ Done E (levR W E r) e.2) ∨ (¬ Done E (levR W E r) e.1 ∧ Done E (levR W E r) e.2)) := Classical.byContradiction fun hno => by
        have hcl : Closed E (fun z => Done E (levR W E r) z) := fun e he => by
          constructor
          · intro h1
            exact Classical.byContradiction fun h2 => hno ⟨e, he, Or.inl ⟨h1, h2⟩⟩
          · intro h1
            exact Classical.byContradiction fun h2 => hno ⟨e, he, Or.inr ⟨h2, h1⟩⟩
        exact hvd (hm1.symm _ hcl hmd)
      obtain ⟨e, he, hone⟩ := hex
      have hb := levs_done E hF e he _ hl (hone.elim (fun a => Or.inl a.1) (fun a => Or.inr a.2))
      refine Nat.lt_of_le_of_lt hr ?_
      rcases hone with ⟨_, h2⟩ | ⟨h1, _⟩
      · exact countP_more _ (fun x hx => by simp only [decide_eq_true_eq] at hx ⊢; exact hmono x hx) e.2 (List.mem_range.2 (hE e he).2) (by simp [h2]) (by simp; exact hb.2)
      · exact countP_more _ (fun x hx => by simp only [decide_eq_true_eq] at hx ⊢; exact hmono x hx) e.1 (List.mem_range.2 (hE e he).1) (by simp [h1]) (by simp; exact hb.1)
/-- A label is the least of what is joined. -/
def Least (E : List (Nat × Nat)) (n : Nat) (W : List Nat) : Prop := W.length = n ∧ ∀ v, v < n → Con E v (W.getD v 0) ∧ ∀ u, Con E v u → W.getD v 0 ≤ u
theorem Least.eq {E : List (Nat × Nat)} {n : Nat} {W V : List Nat} (h : Least E n W) (g : Least E n V) : W = V := by
  refine List.ext_getElem (by rw [h.1, g.1]) fun i h1 h2 => ?_
  have hi : i < n := by rw [← h.1]; exact h1
  have a := h.2 i hi
  have b := g.2 i hi
  have e : W.getD i 0 = V.getD i 0 := Nat.le_antisymm (a.2 _ b.1) (b.2 _ a.1)
  simpa [List.getD_eq_getElem?_getD, h1, h2] using e
theorem Least.lt {E : List (Nat × Nat)} {n : Nat} {W : List Nat} (h : Least E n W) {v : Nat} (hv : v < n) : W.getD v 0 < n := Nat.lt_of_le_of_lt ((h.2 v hv).2 v (Con.refl E v)) hv
theorem Least.same {E : List (Nat × Nat)} {n : Nat} {W : List Nat} (h : Least E n W) {u v : Nat} (hu : u < n) (hv : v < n) : W.getD u 0 = W.getD v 0 ↔ Con E u v := by
  constructor
  · intro e
    have a := (h.2 u hu).1
    rw [e] at a
    exact a.trans (h.2 v hv).1.symm
  · intro c
    exact Nat.le_antisymm ((h.2 u hu).2 _ (c.trans (h.2 v hv).1)) ((h.2 v hv).2 _ (c.symm.trans (h.2 u hu).1))
theorem levR_least {E : List (Nat × Nat)} {n : Nat} (hE : ∀ e, e ∈ E → e.1 < n ∧ e.2 < n) (r : Nat) (hr : n ≤ r) : Least E n (levR (List.range n) E r) := by
  have h0 : Lab E n (List.range n) := ⟨by simp, fun v hv => by simp [List.getD_eq_getElem?_getD, hv], fun v hv => by simp [List.getD_eq_getElem?_getD, hv, Con.refl]⟩
  have hl := levR_lab hE h0 r
  have hall : ∀ v, v < n → Done E (levR (List.range n) E r) v := by
    rcases levR_done hE h0 r with h | h
    · exact h
    · intro v hv
      have hc : (List.range n).countP (fun v => @decide (Done E (levR (List.range n) E r) v) (Classical.propDecidable _)) = (List.range n).length := Nat.le_antisymm List.countP_le_length (by simp; omega)
      have := List.countP_eq_length.1 hc v (List.mem_range.2 hv)
      simpa using this
  exact ⟨hl.len, fun v hv => ⟨hl.con v hv, hall v hv⟩⟩
end Go.Proofs.Ytlcogbcpmneknaa
