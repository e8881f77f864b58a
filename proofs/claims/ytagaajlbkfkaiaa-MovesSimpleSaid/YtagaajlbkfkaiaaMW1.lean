/- The walk of (bench).without: crossings taken out, their strands going on. -/
import Derived.Test.YtagaajlbkfkaiaaF2P
import Derived.Test.YtagaajlbkfkaiaaJ3hP
import Derived.Test.YtagaajlbkfkaiaaMV1
import Derived.Test.YtagaajlbkfkaiaaMV5P
namespace Go.Proofs.Ytagaajlbkfkaiaa
open Go.RowKit

/-- How many loops there are when crossings are taken out. -/
def takL (C : List Cr) (loops : Int) (G : List Nat) : Int := loops + (cntB (lfB (uniM C (nx C) G) (stB C G (uniM C (nx C) G) (2 * C.length + 1))) (2 * C.length + 1) : Nat)
/-- What is left of the crossings. -/
def takC (C : List Cr) (G : List Nat) : List Cr := reTo C G (numM (uniM C (nx C) G) (ltB (uniM C (nx C) G) (stB C G (uniM C (nx C) G) (2 * C.length + 1)))) C.length
theorem st2D {W : World} {z : Nat} {a b c d : Value} {t : TypeId} {fz : Nat × Nat} (h : W.heap[z]? = some (.cells #[c, d] t fz)) : ((W.setCell ⟨z, 0, none⟩ a).setCell ⟨z, 1, none⟩ b).heap[z]? = some (.cells #[a, b] t fz) := set_block (set_block h)

/-- A row keeps where two cells of an older block are set. -/
theorem own_two {W : World} {B e s n z : Nat} {v : Value} {xs : List Value} (h : W.ownsRow B e s v n xs) (hz : z < B) (a b : Value) : ((W.setCell ⟨z, 0, none⟩ a).setCell ⟨z, 1, none⟩ b).ownsRow B e s v n xs := by
  refine h.kept (grown_trans (set_grown W z 0 a) (set_grown (W.setCell ⟨z, 0, none⟩ a) z 1 b)) ?_
  cases hv : v.ownBlock with
  | none => exact Or.inl rfl
  | some k => exact Or.inr (fun e => by have h1 := (h.lt k hv).1; have h2 := Option.some.inj e; omega)

set_option maxHeartbeats 4000000 in
set_option maxRecDepth 100000 in
theorem without_yes (a : Option Addr) (cap : Nat) (C : List Cr) (loops : Int) (gF cF gT cT : Nat) (bG cG : Nat) (G : List Nat) (w : World) (hm : mayD C loops = true) (hD : Dr w a cap C gF gT) (hG1 : G.length ≤ 16) (hG : GonAt w bG G) (hL : takL C loops G ≤ 16) :
    Calls Try.prog 109 #[drV a cap C loops gF cF gT cT, .slice (some ⟨bG, 0, none⟩) G.length cG] w fun e w' => ∃ a2 c2, e = .returned (.agg #[.slice a2 (takC C G).length c2, .int .i64 (takL C loops G)]) ∧ w'.ownsRow w.heap.size 71 5 (.slice a2 (takC C G).length c2) (takC C G).length (crossCells (takC C G)) ∧ Below w.heap.size w w' := by
  have HW : Hid (∀ W, Below w.heap.size w W → Calls Try.prog 124 #[drV a cap C loops gF cF gT cT, .func (.func 97) #[drV a cap C loops gF cF gT cT] #[], .slice (some ⟨bG, 0, none⟩) G.length cG] W fun e w' => ∃ a2 c2, e = .returned (.agg #[.slice a2 (takC C G).length c2, .int .i64 (takL C loops G)]) ∧ w'.ownsRow W.heap.size 71 5 (.slice a2 (takC C G).length c2) (takC C G).length (crossCells (takC C G)) ∧ Below W.heap.size W w') := fun W hW =>
    (without_ahead a cap C loops gF cF gT cT bG cG G W hm (hD.on hW) hG1 (hG.on hW)).mono fun e w' h => by
      obtain ⟨v, h1, h2, h3⟩ := h
      obtain ⟨a2, c2, rfl⟩ := own_capS h2
      exact ⟨a2, c2, h1, h2, h3⟩
  generalize takC C G = D at HW ⊢
  generalize takL C loops G = lo at HW hL ⊢
  obtain ⟨Y, hY⟩ : ∃ Y, (w.alloc (.cells #[.slice a C.length cap, .int .i64 loops, .slice (some ⟨gF, 0, none⟩) (2 * C.length + 1) cF, .slice (some ⟨gT, 0, none⟩) (2 * C.length + 1) cT] 63)).alloc (.cells #[.slice none 0 0, .int .i64 0] 24) = Y := ⟨_, rfl⟩
  have hBY : Below w.heap.size w Y := by rw [← hY]; exact ((Below.refl _ _).alloc (Nat.le_refl _) _).alloc (by simp) _
  have HBY := hid_of hBY
  have HT0 : Hid (Y.heap[w.heap.size]? = some (.cells #[.slice a C.length cap, .int .i64 loops, .slice (some ⟨gF, 0, none⟩) (2 * C.length + 1) cF, .slice (some ⟨gT, 0, none⟩) (2 * C.length + 1) cT] 63 (0, 0))) := (by rw [← hY]; exact alloc_old (alloc_at rfl) : Y.heap[w.heap.size]? = _)
  have HT1 : Hid (Y.heap[w.heap.size + 1]? = some (.cells #[.slice none 0 0, .int .i64 0] 24 (0, 0))) := (by rw [← hY]; exact alloc_at (by simp) : Y.heap[w.heap.size + 1]? = _)
  have hsY : w.heap.size + 2 ≤ Y.heap.size := by rw [← hY]; simp
  have HWY := hid_of (HW.out Y hBY)
  unfold drV at HWY ⊢
  have hL2 : lo ≤ 16 := hL
  have HY := hid_of hY
  have b0 : Y.cell? ⟨w.heap.size, 0, none⟩ = some (.slice a C.length cap) := block_cell HT0.out rfl
  have b1 : Y.cell? ⟨w.heap.size, 1, none⟩ = some (.int .i64 loops) := block_cell HT0.out rfl
  have b2 : Y.cell? ⟨w.heap.size, 2, none⟩ = some (.slice (some ⟨gF, 0, none⟩) (2 * C.length + 1) cF) := block_cell HT0.out rfl
  have b3 : Y.cell? ⟨w.heap.size, 3, none⟩ = some (.slice (some ⟨gT, 0, none⟩) (2 * C.length + 1) cT) := block_cell HT0.out rfl
  clear HW hm hD hG1 hG hBY
  go_enter Try.func109, Try.ntmps109
  go_wp2_with (first
    | (go_at_call 124; refine HWY.out.mono ?_; rintro e9 w3 ⟨a2, c2, rfl, ho3, hb3⟩
       have HO3 := hid_of ho3
       have HB3 := hid_of hb3
       have hs3 := hb3.size
       have q1 := (hb3.block _ (by omega)).trans HT1.out
       have HQ1 := hid_of q1
       have k0 : w3.cell? ⟨w.heap.size + 1, 0, none⟩ = some (.slice none 0 0) := block_cell q1 rfl
       have k1 : w3.cell? ⟨w.heap.size + 1, 1, none⟩ = some (.int .i64 0) := block_cell q1 rfl
       have f0 : w3.frozen? ⟨w.heap.size + 1, 0, none⟩ = false := block_frozen q1
       have f1 : w3.frozen? ⟨w.heap.size + 1, 1, none⟩ = false := block_frozen q1
       have lb : w.heap.size + 1 < w3.heap.size := by omega
       clear ho3 hb3 q1)
    | (go_at_call 41; refine (need_ok 2 _).mono ?_; rintro e9 w4 ⟨rfl, e4⟩; obtain rfl := e4.symm))
  have hZ := alloc_old (o := .cells #[.slice a2 D.length c2, .int .i64 lo] 24) (st2D (a := .slice a2 D.length c2) (b := .int .i64 lo) HQ1.out)
  have x0 := block_cell (i := 0) (v := .slice a2 D.length c2) hZ rfl
  have x1 := block_cell (i := 1) (v := .int .i64 lo) hZ rfl
  refine bodyPost_ret (v := .agg #[.slice a2 D.length c2, .int .i64 lo]) (by simp [results, Try.results109, go_sem, x0, x1]) rfl ⟨a2, c2, rfl, ?_, ?_⟩
  · exact own_low ((own_two HO3.out (by omega) _ _).alloc _) (by omega)
  · exact (((HBY.out.trans (HB3.out.mono (by omega))).setCell (p := ⟨w.heap.size + 1, 0, none⟩) (by simp) _).setCell (p := ⟨w.heap.size + 1, 1, none⟩) (by simp) _).alloc (by simp; omega) _
set_option maxHeartbeats 4000000 in
set_option maxRecDepth 100000 in
theorem without_no (a : Option Addr) (cap : Nat) (C : List Cr) (loops : Int) (gF cF gT cT : Nat) (bG cG : Nat) (G : List Nat) (w : World) (hm : mayD C loops = true) (hD : Dr w a cap C gF gT) (hG1 : G.length ≤ 16) (hG : GonAt w bG G) (hL : 16 < takL C loops G) :
    Calls Try.prog 109 #[drV a cap C loops gF cF gT cT, .slice (some ⟨bG, 0, none⟩) G.length cG] w fun e w' => e = .panicked (gaveUp 2) ∧ Below w.heap.size w w' := by
  have HW : Hid (∀ W, Below w.heap.size w W → Calls Try.prog 124 #[drV a cap C loops gF cF gT cT, .func (.func 97) #[drV a cap C loops gF cF gT cT] #[], .slice (some ⟨bG, 0, none⟩) G.length cG] W fun e w' => ∃ a2 c2, e = .returned (.agg #[.slice a2 (takC C G).length c2, .int .i64 (takL C loops G)]) ∧ w'.ownsRow W.heap.size 71 5 (.slice a2 (takC C G).length c2) (takC C G).length (crossCells (takC C G)) ∧ Below W.heap.size W w') := fun W hW =>
    (without_ahead a cap C loops gF cF gT cT bG cG G W hm (hD.on hW) hG1 (hG.on hW)).mono fun e w' h => by
      obtain ⟨v, h1, h2, h3⟩ := h
      obtain ⟨a2, c2, rfl⟩ := own_capS h2
      exact ⟨a2, c2, h1, h2, h3⟩
  generalize takC C G = D at HW
  generalize takL C loops G = lo at HW hL
  obtain ⟨Y, hY⟩ : ∃ Y, (w.alloc (.cells #[.slice a C.length cap, .int .i64 loops, .slice (some ⟨gF, 0, none⟩) (2 * C.length + 1) cF, .slice (some ⟨gT, 0, none⟩) (2 * C.length + 1) cT] 63)).alloc (.cells #[.slice none 0 0, .int .i64 0] 24) = Y := ⟨_, rfl⟩
  have hBY : Below w.heap.size w Y := by rw [← hY]; exact ((Below.refl _ _).alloc (Nat.le_refl _) _).alloc (by simp) _
  have HBY := hid_of hBY
  have HT0 : Hid (Y.heap[w.heap.size]? = some (.cells #[.slice a C.length cap, .int .i64 loops, .slice (some ⟨gF, 0, none⟩) (2 * C.length + 1) cF, .slice (some ⟨gT, 0, none⟩) (2 * C.length + 1) cT] 63 (0, 0))) := (by rw [← hY]; exact alloc_old (alloc_at rfl) : Y.heap[w.heap.size]? = _)
  have HT1 : Hid (Y.heap[w.heap.size + 1]? = some (.cells #[.slice none 0 0, .int .i64 0] 24 (0, 0))) := (by rw [← hY]; exact alloc_at (by simp) : Y.heap[w.heap.size + 1]? = _)
  have hsY : w.heap.size + 2 ≤ Y.heap.size := by rw [← hY]; simp
  have HWY := hid_of (HW.out Y hBY)
  unfold drV at HWY ⊢
  have d1 : decide (lo ≤ 16) = false := decide_eq_false (by omega)
  have HY := hid_of hY
  have b0 : Y.cell? ⟨w.heap.size, 0, none⟩ = some (.slice a C.length cap) := block_cell HT0.out rfl
  have b1 : Y.cell? ⟨w.heap.size, 1, none⟩ = some (.int .i64 loops) := block_cell HT0.out rfl
  have b2 : Y.cell? ⟨w.heap.size, 2, none⟩ = some (.slice (some ⟨gF, 0, none⟩) (2 * C.length + 1) cF) := block_cell HT0.out rfl
  have b3 : Y.cell? ⟨w.heap.size, 3, none⟩ = some (.slice (some ⟨gT, 0, none⟩) (2 * C.length + 1) cT) := block_cell HT0.out rfl
  clear HW hm hD hG1 hG hBY
  go_enter Try.func109, Try.ntmps109
  go_wp2_with (first
    | (go_at_call 41; try rw [d1]
       refine (need_no 2 _).mono ?_; rintro e9 w4 ⟨rfl, e4⟩; obtain rfl := e4.symm)
    | (go_at_call 124; refine HWY.out.mono ?_; rintro e9 w3 ⟨a2, c2, rfl, ho3, hb3⟩
       have HO3 := hid_of ho3
       have HB3 := hid_of hb3
       have hs3 := hb3.size
       have q1 := (hb3.block _ (by omega)).trans HT1.out
       have HQ1 := hid_of q1
       have k0 : w3.cell? ⟨w.heap.size + 1, 0, none⟩ = some (.slice none 0 0) := block_cell q1 rfl
       have k1 : w3.cell? ⟨w.heap.size + 1, 1, none⟩ = some (.int .i64 0) := block_cell q1 rfl
       have f0 : w3.frozen? ⟨w.heap.size + 1, 0, none⟩ = false := block_frozen q1
       have f1 : w3.frozen? ⟨w.heap.size + 1, 1, none⟩ = false := block_frozen q1
       have lb : w.heap.size + 1 < w3.heap.size := by omega
       clear ho3 hb3 q1))
  exact ⟨rfl, rfl, (HBY.out.trans (HB3.out.mono (by omega))).alloc (by omega) _⟩
end Go.Proofs.Ytagaajlbkfkaiaa
