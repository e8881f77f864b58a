/- Several texts of the proof, one behind the other. -/
import Derived.Test.YtagaajlbkfkaiaaW2P
import Derived.Test.YtagaajlbkfkaiaaBaseP
import Derived.Deep.QuietTactic
import Derived.BigQuiet
/- The walks of slices.Contains of numbers, of the closure that tells an arc's new number, and of drawing.Renumbered with it. -/
namespace Go.Proofs.Ytagaajlbkfkaiaa
open Go.RowKit

/-- Is a number in a list? -/
def hasG (G : List Nat) (v : Int) : Bool := G.any fun g => decide ((g : Int) = v)
theorem hasG_nat (G : List Nat) (v : Nat) : hasG G (v : Int) = decide (v ∈ G) := by
  unfold hasG
  rw [Bool.eq_iff_iff]
  simp only [List.any_eq_true, decide_eq_true_eq]
  exact ⟨fun ⟨x, hx, e⟩ => by have : x = v := by omega
                              exact this ▸ hx, fun h => ⟨v, h, rfl⟩⟩
theorem hasG_neg (G : List Nat) : hasG G (-1) = false := by
  unfold hasG
  rw [List.any_eq_false]
  intro x _
  simp only [decide_eq_true_eq]
  omega

set_option maxHeartbeats 4000000 in
set_option maxRecDepth 100000 in
theorem indexZ_any (b off cap : Nat) (G : List Nat) (v : Int) (w : World) (hm : G.length ≤ 1000) (hbw : b < w.heap.size) (h : ∀ i, i < G.length → w.cell? ⟨b, off + i, none⟩ = some (.int .i64 (G.getD i 0 : Nat))) :
    Calls Try.prog 146 #[.slice (some ⟨b, off, none⟩) G.length cap, .int .i64 v] w fun e w' => ∃ r : Int, e = .returned (.int .i64 r) ∧ decide (0 ≤ r) = hasG G v ∧ Below w.heap.size w w' := by
  have HC : Hid (∀ i, i < G.length → w.cell? ⟨b, off + i, none⟩ = some (.int .i64 (G.getD i 0 : Nat))) := h
  have HB : Hid (Below w.heap.size w w) := Below.refl _ _
  clear h
  obtain ⟨m, hmm⟩ : ∃ m, m = G.length := ⟨_, rfl⟩
  have HMM : Hid (m = G.length) := hmm
  rw [← hmm] at hm HC ⊢
  clear hmm
  go_enter Try.func146, Try.ntmps146
  go_wp2
  go_loopw [8] (fun v8 wr => ∃ i : Nat, i ≤ m ∧ v8 = .int .i64 (i : Nat) ∧ Hid ((∀ k, k < i → (G.getD k 0 : Int) ≠ v) ∧ Below w.heap.size w wr)) (fun v8 _ => m - (intOf v8).toNat)
  case atStart => exact ⟨0, Nat.zero_le _, rfl, ⟨fun k hk => absurd hk (Nat.not_lt_zero _), HB.out⟩⟩
  case round =>
    clear HB
    rename World => W1
    obtain ⟨i, hin, rfl, hp⟩ := hrel
    by_cases hil : i < m
    · have c0 := bcell hp.out.2 hbw (HC.out i hil)
      obtain ⟨x, hx⟩ : ∃ x, G.getD i 0 = x := ⟨_, rfl⟩
      have HX : Hid (G.getD i 0 = x) := hx
      rw [hx] at c0
      clear hx
      by_cases he : v = (x : Int)
      · have heq : (v == (x : Int)) = true := by simp [he]
        have HE : Hid (v = (x : Int)) := he
        clear he
        have HG : Hid (hasG G v = true) := (by
          unfold hasG
          rw [List.any_eq_true]
          refine ⟨G.getD i 0, ?_, by rw [HX.out, HE.out]; simp⟩
          have hl : i < G.length := by have := HMM.out; omega
          rw [List.getD_eq_getElem?_getD, List.getElem?_eq_getElem hl]
          exact List.getElem_mem hl : hasG G v = true)
        go_wp2
        go_ret
        exact ⟨i, rfl, by rw [HG.out]; simp, hp.out.2⟩
      · have heq : (v == (x : Int)) = false := by simp [he]
        have HE : Hid (v ≠ (x : Int)) := he
        clear he
        go_wp2
        go_roundw
        case rel => exact ⟨i + 1, by omega, by go_num, ⟨fun k hk => by
          by_cases e : k = i
          · rw [e, HX.out]; exact fun q => HE.out q.symm
          · exact hp.out.1 k (by omega), hp.out.2⟩⟩
        case measure => simp only [intOf]; omega
    · obtain rfl : i = m := by omega
      have HG : Hid (hasG G v = false) := (by
        unfold hasG
        rw [List.any_eq_false]
        intro y hy
        obtain ⟨j, hj, rfl⟩ := List.getElem_of_mem hy
        have := hp.out.1 j (by have := HMM.out; omega)
        simpa [List.getD_eq_getElem?_getD, hj] using this : hasG G v = false)
      go_wp2
      go_ret
      exact ⟨-1, rfl, by rw [HG.out]; rfl, hp.out.2⟩

set_option maxHeartbeats 4000000 in
set_option maxRecDepth 100000 in
theorem containsG_any (b off cap : Nat) (G : List Nat) (v : Int) (w : World) (hm : G.length ≤ 1000) (hbw : b < w.heap.size) (h : ∀ i, i < G.length → w.cell? ⟨b, off + i, none⟩ = some (.int .i64 (G.getD i 0 : Nat))) :
    Calls Try.prog 133 #[.slice (some ⟨b, off, none⟩) G.length cap, .int .i64 v] w fun e w' => e = .returned (.bool (hasG G v)) ∧ Below w.heap.size w w' := by
  have HI : Hid (Calls Try.prog 146 #[.slice (some ⟨b, off, none⟩) G.length cap, .int .i64 v] w fun e w' => ∃ r : Int, e = .returned (.int .i64 r) ∧ decide (0 ≤ r) = hasG G v ∧ Below w.heap.size w w') := indexZ_any b off cap G v w hm hbw h
  clear h
  go_enter Try.func133, Try.ntmps133
  go_wp2_with (go_at_call 146; refine HI.out.mono ?_; rintro e9 w2 ⟨r, rfl, hr, hb2⟩; refine Hid.out ?_)
  refine Lib.hid ?_
  have HR : Hid (decide (0 ≤ r) = hasG G v) := hr
  have HB2 : Hid (Below w.heap.size w w2) := hb2
  clear hr hb2
  go_wp2
  go_ret
  exact ⟨ret_bool HR.out.symm, HB2.out⟩

/-- The box that holds the numbers, and the numbers. -/
def NumAt (w : World) (gV g N : Nat) (M : List Nat) : Prop := w.heap[gV]? = some (.cells #[.slice (some ⟨g, 0, none⟩) N N] 46 (0, 0)) ∧ g < w.heap.size ∧ ∀ i, i < N → w.cell? ⟨g, i, none⟩ = some (.int .i64 (M.getD i 0 : Nat))
theorem NumAt.on {B : Nat} {w w' : World} {gV g N : Nat} {M : List Nat} (h : NumAt w gV g N M) (hb : Below B w w') (l1 : gV < B) (l2 : g < B) : NumAt w' gV g N M :=
  ⟨(hb.block _ l1).trans h.1, Nat.lt_of_lt_of_le h.2.1 hb.size, fun i hi => bcell hb l2 (h.2.2 i hi)⟩

set_option maxHeartbeats 2000000 in
set_option maxRecDepth 100000 in
theorem withoutNum_any (s x gV g N : Nat) (M : List Nat) (w : World) (hx : x < N) (hA : NumAt w gV g N M) :
    Calls Try.prog 134 #[.int .i64 (s : Nat), .int .i64 (x : Nat), .pointer (some ⟨gV, 0, none⟩)] w fun e w' => e = .returned (.int .i64 (M.getD x 0 : Nat)) ∧ Below w.heap.size w w' := by
  have c0 : w.cell? ⟨gV, 0, none⟩ = some (.slice (some ⟨g, 0, none⟩) N N) := block_cell hA.1 rfl
  have l0 : gV < w.heap.size := (Array.getElem?_eq_some_iff.1 hA.1).1
  have l1 := hA.2.1
  have c1 := hA.2.2 x hx
  clear hA
  go_enter Try.func134, Try.ntmps134
  go_wp2
  go_ret
  exact ⟨rfl, Below.refl _ _⟩

set_option maxHeartbeats 4000000 in
set_option maxRecDepth 100000 in
theorem renumbered_num (x : Cr) (gV gN N : Nat) (M : List Nat) (w : World) (h1 : ∀ k, k < 4 → 0 ≤ x.arc k ∧ x.arc k < (N : Int)) (hX : NumAt w gV gN N M) :
    Calls Try.prog 100 #[.agg #[.int .i64 x.a, .int .i64 x.b, .int .i64 x.c, .int .i64 x.d, .bool x.plus], .func (.func 134) #[] #[.pointer (some ⟨gV, 0, none⟩)]] w fun e w' => e = .returned (.agg #[.int .i64 (M.getD x.a.toNat 0 : Nat), .int .i64 (M.getD x.b.toNat 0 : Nat), .int .i64 (M.getD x.c.toNat 0 : Nat), .int .i64 (M.getD x.d.toNat 0 : Nat), .bool x.plus]) ∧ Below w.heap.size w w' := by
  have HX : Hid (NumAt w gV gN N M) := hX
  have H1 : Hid (∀ k, k < 4 → 0 ≤ x.arc k ∧ x.arc k < (N : Int)) := h1
  have l1 : gV < w.heap.size := (Array.getElem?_eq_some_iff.1 hX.1).1
  have l2 := hX.2.1
  clear h1 hX
  obtain ⟨w0, hw0⟩ : ∃ w0, w0 = ((w.alloc (.cells #[.int .i64 x.a, .int .i64 x.b, .int .i64 x.c, .int .i64 x.d, .bool x.plus] 71)).alloc (.cells #[.int .i64 0, .int .i64 0, .int .i64 0, .int .i64 0, .bool false] 71)).alloc (.cells #[.int .i64 0, .int .i64 0, .int .i64 0, .int .i64 0] 116) := ⟨_, rfl⟩
  have HW0 : Hid (w0 = ((w.alloc (.cells #[.int .i64 x.a, .int .i64 x.b, .int .i64 x.c, .int .i64 x.d, .bool x.plus] 71)).alloc (.cells #[.int .i64 0, .int .i64 0, .int .i64 0, .int .i64 0, .bool false] 71)).alloc (.cells #[.int .i64 0, .int .i64 0, .int .i64 0, .int .i64 0] 116)) := hw0
  have hs0 : w0.heap.size = w.heap.size + 3 := by rw [hw0]; simp
  have HB0 : Hid (Below w.heap.size w w0) := (by rw [hw0]; exact below3 _ _ _ _ : Below w.heap.size w w0)
  have HT0 : Hid (w0.heap[w.heap.size]? = some (.cells #[.int .i64 x.a, .int .i64 x.b, .int .i64 x.c, .int .i64 x.d, .bool x.plus] 71 (0, 0))) := (by rw [hw0]; exact alloc_old (alloc_old (alloc_at rfl)) : w0.heap[w.heap.size]? = some (.cells #[.int .i64 x.a, .int .i64 x.b, .int .i64 x.c, .int .i64 x.d, .bool x.plus] 71 (0, 0)))
  have HT1 : Hid (w0.heap[w.heap.size + 1]? = some (.cells #[.int .i64 0, .int .i64 0, .int .i64 0, .int .i64 0, .bool false] 71 (0, 0))) := (by rw [hw0]; exact alloc_old (alloc_at (by simp)) : w0.heap[w.heap.size + 1]? = some (.cells #[.int .i64 0, .int .i64 0, .int .i64 0, .int .i64 0, .bool false] 71 (0, 0)))
  obtain ⟨g, hg⟩ : ∃ g : Nat → Int, g = fun k => ((M.getD (x.arc k).toNat 0 : Nat) : Int) := ⟨_, rfl⟩
  have HG : Hid (∀ k, ((M.getD (x.arc k).toNat 0 : Nat) : Int) = g k) := fun k => by rw [hg]
  have HT2 : Hid (w0.heap[w.heap.size + 1 + 1]? = some (.cells (intArr (numTo g 0)) 116 (0, 0))) := (by rw [hw0, numTo_zero]; exact alloc_at (by simp) : w0.heap[w.heap.size + 1 + 1]? = some (.cells (intArr (numTo g 0)) 116 (0, 0)))
  have G0 : ((M.getD x.a.toNat 0 : Nat) : Int) = g 0 := by rw [hg]; rfl
  have G1 : ((M.getD x.b.toNat 0 : Nat) : Int) = g 1 := by rw [hg]; rfl
  have G2 : ((M.getD x.c.toNat 0 : Nat) : Int) = g 2 := by rw [hg]; rfl
  have G3 : ((M.getD x.d.toNat 0 : Nat) : Int) = g 3 := by rw [hg]; rfl
  rw [G0, G1, G2, G3]
  clear hw0 hg G0 G1 G2 G3
  go_enter Try.func100, Try.ntmps100
  go_wp2_with (go_at_call 75; rw [← HW0.out]; refine (arcs_any x _).mono ?_; rintro e9 w1 ⟨rfl, hb1⟩; refine Hid.out ?_)
  refine Lib.hid ?_
  have HB1 : Hid (Below w.heap.size w w1) := HB0.out.trans (hb1.mono (by omega))
  have hs1 := hb1.size
  have HA1 : Hid (w1.heap[w.heap.size + 1 + 1]? = some (.cells (intArr (numTo g 0)) 116 (0, 0))) := (hb1.block _ (by omega)).trans HT2.out
  have HC1 : Hid (w1.heap[w.heap.size]? = some (.cells #[.int .i64 x.a, .int .i64 x.b, .int .i64 x.c, .int .i64 x.d, .bool x.plus] 71 (0, 0))) := (hb1.block _ (by omega)).trans HT0.out
  have HR1 : Hid (w1.heap[w.heap.size + 1]? = some (.cells #[.int .i64 0, .int .i64 0, .int .i64 0, .int .i64 0, .bool false] 71 (0, 0))) := (hb1.block _ (by omega)).trans HT1.out
  clear hb1
  go_wp2
  go_loopw [10] (fun v10 wr => ∃ k : Nat, k ≤ 4 ∧ v10 = .int .i64 (k : Nat) ∧ Hid (wr.heap[w.heap.size + 1 + 1]? = some (.cells (intArr (numTo g k)) 116 (0, 0))) ∧ Below (w.heap.size + 1 + 1) w1 wr) (fun v10 _ => 4 - (intOf v10).toNat)
  case atStart => exact ⟨0, Nat.zero_le _, rfl, HA1.out, Below.refl _ _⟩
  case round =>
    rename World => W1
    obtain ⟨k, hk, rfl, hA, hb⟩ := hrel
    have hsz := hb.size
    by_cases hkl : k < 4
    · have hix := index_arr x k hkl
      have HBX : Hid (NumAt W1 gV gN N M) := HX.out.on (HB1.out.trans (hb.mono (by omega))) l1 l2
      obtain ⟨y, hy⟩ : ∃ y : Nat, x.arc k = (y : Int) := ⟨(x.arc k).toNat, by have := (H1.out k hkl).1; omega⟩
      have hyN : y < N := by have := (H1.out k hkl).2; omega
      have HGK : Hid (((M.getD y 0 : Nat) : Int) = g k) := (by rw [← HG.out k, hy]; rfl : ((M.getD y 0 : Nat) : Int) = g k)
      have HN : Hid (numTo g (k + 1) = (numTo g k).set k (g k)) := (numTo_next g k hkl).symm
      rw [hy] at hix
      clear hy
      go_wp2_with (go_at_call 134; refine (withoutNum_any k y gV gN N M _ hyN HBX.out).mono ?_; rw [HGK.out]; rintro e9 w2 ⟨rfl, hb2⟩; refine Hid.out ?_)
      refine Lib.hid ?_
      have HB2 : Hid (Below W1.heap.size W1 w2) := hb2
      have hs2 := hb2.size
      have hA2 : w2.heap[w.heap.size + 1 + 1]? = some (.cells (intArr (numTo g k)) 116 (0, 0)) := (hb2.block _ (by omega)).trans hA.out
      have HA2 : Hid (w2.heap[w.heap.size + 1 + 1]? = some (.cells (intArr (numTo g k)) 116 (0, 0))) := hA2
      have e0 : w2.cell? ⟨w.heap.size + 1 + 1, k, none⟩ = some (.int .i64 ((numTo g k).getD k 0)) := block_cell hA2 (intArr_get _ k (by rw [numTo_len]; exact hkl))
      have z0 : w2.frozen? ⟨w.heap.size + 1 + 1, k, none⟩ = false := block_frozen hA2
      have hlt : w.heap.size + 1 + 1 < w2.heap.size := by omega
      generalize (numTo g k).getD k 0 = u at e0
      clear hb2 hA2
      go_wp2
      go_roundw
      case rel => exact ⟨k + 1, by omega, by go_num, (by rw [HN.out, ← intArr_set]; exact set_block HA2.out : (w2.setCell ⟨w.heap.size + 1 + 1, k, none⟩ (.int .i64 (g k))).heap[w.heap.size + 1 + 1]? = some (.cells (intArr (numTo g (k + 1))) 116 (0, 0))), (hb.trans (HB2.out.mono (by omega))).grown (set_grown w2 (w.heap.size + 1 + 1) k (.int .i64 (g k))) (by omega) (fun q hq => by have := Option.some.inj hq; omega)⟩
      case measure => simp only [intOf]; omega
    · obtain rfl : k = 4 := by omega
      have hA4 := hA.out
      rw [numTo_four] at hA4
      have hC := (hb.block _ (by omega)).trans HC1.out
      have hR := (hb.block _ (by omega)).trans HR1.out
      have HR : Hid (W1.heap[w.heap.size + 1]? = some (.cells #[.int .i64 0, .int .i64 0, .int .i64 0, .int .i64 0, .bool false] 71 (0, 0))) := hR
      have a0 : W1.cell? ⟨w.heap.size + 1 + 1, 0, none⟩ = some (.int .i64 (g 0)) := block_cell hA4 rfl
      have a1 : W1.cell? ⟨w.heap.size + 1 + 1, 1, none⟩ = some (.int .i64 (g 1)) := block_cell hA4 rfl
      have a2 : W1.cell? ⟨w.heap.size + 1 + 1, 2, none⟩ = some (.int .i64 (g 2)) := block_cell hA4 rfl
      have a3 : W1.cell? ⟨w.heap.size + 1 + 1, 3, none⟩ = some (.int .i64 (g 3)) := block_cell hA4 rfl
      have a4 : W1.cell? ⟨w.heap.size, 4, none⟩ = some (.bool x.plus) := block_cell hC rfl
      have hlt : w.heap.size + 1 + 1 < W1.heap.size := by omega
      have HBW : Hid (Below w.heap.size w W1) := HB1.out.trans (hb.mono (by omega))
      clear hA4 hC hR hA hb
      go_wp2_with (go_at_call 122; refine (crossOf_any ⟨(g 0), (g 1), (g 2), (g 3), x.plus⟩ _).mono ?_; rintro e9 w4 ⟨rfl, hb4⟩; refine Hid.out ?_)
      refine Lib.hid ?_
      have HR4 : Hid (w4.heap[w.heap.size + 1]? = some (.cells #[.int .i64 0, .int .i64 0, .int .i64 0, .int .i64 0, .bool false] 71 (0, 0))) := (hb4.block _ (by omega)).trans HR.out
      have HB4 : Hid (Below w.heap.size w w4) := HBW.out.trans (hb4.mono (by omega))
      have hs4 := hb4.size
      clear hb4 a0 a1 a2 a3 a4
      have r0 : w4.cell? ⟨w.heap.size + 1, 0, none⟩ = some (.int .i64 0) := block_cell HR4.out rfl
      have r1 : w4.cell? ⟨w.heap.size + 1, 1, none⟩ = some (.int .i64 0) := block_cell HR4.out rfl
      have r2 : w4.cell? ⟨w.heap.size + 1, 2, none⟩ = some (.int .i64 0) := block_cell HR4.out rfl
      have r3 : w4.cell? ⟨w.heap.size + 1, 3, none⟩ = some (.int .i64 0) := block_cell HR4.out rfl
      have r4 : w4.cell? ⟨w.heap.size + 1, 4, none⟩ = some (.bool false) := block_cell HR4.out rfl
      have f0 : w4.frozen? ⟨w.heap.size + 1, 0, none⟩ = false := block_frozen HR4.out
      have f1 : w4.frozen? ⟨w.heap.size + 1, 1, none⟩ = false := block_frozen HR4.out
      have f2 : w4.frozen? ⟨w.heap.size + 1, 2, none⟩ = false := block_frozen HR4.out
      have f3 : w4.frozen? ⟨w.heap.size + 1, 3, none⟩ = false := block_frozen HR4.out
      have f4 : w4.frozen? ⟨w.heap.size + 1, 4, none⟩ = false := block_frozen HR4.out
      go_wp2
      have hX := set_block (i := 4) (u := .bool x.plus) (set_block (i := 3) (u := .int .i64 (g 3)) (set_block (i := 2) (u := .int .i64 (g 2)) (set_block (i := 1) (u := .int .i64 (g 1)) (set_block (i := 0) (u := .int .i64 (g 0)) HR4.out))))
      have x0 := block_cell (i := 0) (v := .int .i64 (g 0)) hX rfl
      have x1 := block_cell (i := 1) (v := .int .i64 (g 1)) hX rfl
      have x2 := block_cell (i := 2) (v := .int .i64 (g 2)) hX rfl
      have x3 := block_cell (i := 3) (v := .int .i64 (g 3)) hX rfl
      have x4 := block_cell (i := 4) (v := .bool x.plus) hX rfl
      refine bodyPost_ret (v := .agg #[.int .i64 (g 0), .int .i64 (g 1), .int .i64 (g 2), .int .i64 (g 3), .bool x.plus]) (by simp [results, Try.results100, go_sem, x0, x1, x2, x3, x4]) rfl ⟨rfl, ?_⟩
      have hst : ∀ (W : World) (u : Value) (i : Nat), Below w.heap.size w W → Below w.heap.size w (W.setCell ⟨w.heap.size + 1, i, none⟩ u) := fun W u i h => h.grown (set_grown W (w.heap.size + 1) i u) h.size (fun q hq => by have := Option.some.inj hq; omega)
      exact hst _ _ _ (hst _ _ _ (hst _ _ _ (hst _ _ _ (hst _ _ _ HB4.out))))
end Go.Proofs.Ytagaajlbkfkaiaa
/- Plain mathematics: rings of a renaming, and what becomes of them where two places are traded: two rings become one, or one becomes two. -/
namespace Go.Proofs.Ytagaajlbkfkaiaa

/-- A renaming of the numbers below M. -/
structure Bij (f : Nat → Nat) (M : Nat) : Prop where
  lt : ∀ x, x < M → f x < M
  inj : ∀ x y, x < M → y < M → f x = f y → x = y
def it (f : Nat → Nat) : Nat → Nat → Nat
  | 0, x => x
  | i + 1, x => f (it f i x)
theorem it_lt {f : Nat → Nat} {M : Nat} (h : Bij f M) {x : Nat} (hx : x < M) : ∀ i, it f i x < M := by
  intro i
  induction i with
  | zero => exact hx
  | succ i ih => exact h.lt _ ih
theorem it_add (f : Nat → Nat) (x : Nat) : ∀ i j, it f (i + j) x = it f i (it f j x) := by
  intro i j
  induction i with
  | zero => rw [Nat.zero_add]; rfl
  | succ i ih => rw [show i + 1 + j = (i + j) + 1 by omega]; show f (it f (i + j) x) = f (it f i (it f j x)); rw [ih]
theorem it_back {f : Nat → Nat} {M : Nat} (h : Bij f M) {x y : Nat} (hx : x < M) (hy : y < M) : ∀ i, it f i x = it f i y → x = y := by
  intro i
  induction i with
  | zero => exact id
  | succ i ih => intro e; exact ih (h.inj _ _ (it_lt h hx i) (it_lt h hy i) e)
theorem period {f : Nat → Nat} {M : Nat} (h : Bij f M) {x : Nat} (hx : x < M) : ∃ p, 0 < p ∧ it f p x = x := by
  refine Classical.byContradiction fun hn => ?_
  have hp : ∀ p, 0 < p → it f p x ≠ x := fun p h0 e => hn ⟨p, h0, e⟩
  have hd : ((List.range (M + 1)).map fun i => it f i x).Nodup := by
    unfold List.Nodup
    rw [List.pairwise_map]
    refine List.Pairwise.imp ?_ (List.pairwise_lt_range (n := M + 1))
    intro i j hij e
    have e2 : it f i x = it f i (it f (j - i) x) := by rw [← it_add, show i + (j - i) = j by omega]; exact e
    exact hp (j - i) (by omega) (it_back h hx (it_lt h hx _) i e2).symm
  have hl := hd.length_le_of_subset (l₂ := List.range M) (fun y hy => by
    obtain ⟨i, -, rfl⟩ := List.mem_map.1 hy
    exact List.mem_range.2 (it_lt h hx i))
  rw [List.length_map, List.length_range, List.length_range] at hl
  omega
/-- The edges of a renaming. -/
def eds (f : Nat → Nat) (M : Nat) : List (Nat × Nat) := (List.range M).map fun i => (i, f i)
theorem eds_mem {f : Nat → Nat} {M i : Nat} (h : i < M) : (i, f i) ∈ eds f M := List.mem_map.2 ⟨i, List.mem_range.2 h, rfl⟩
theorem eds_lt {f : Nat → Nat} {M : Nat} (h : ∀ x, x < M → f x < M) : ∀ e, e ∈ eds f M → e.1 < M ∧ e.2 < M := fun e he => by
  obtain ⟨i, hi, rfl⟩ := List.mem_map.1 he
  exact ⟨List.mem_range.1 hi, h _ (List.mem_range.1 hi)⟩
theorem closed_eds {f : Nat → Nat} {M : Nat} {S : Nat → Prop} : Closed (eds f M) S ↔ ∀ i, i < M → (S i ↔ S (f i)) := by
  constructor
  · intro h i hi
    exact h _ (eds_mem hi)
  · intro h e he
    obtain ⟨i, hi, rfl⟩ := List.mem_map.1 he
    exact h i (List.mem_range.1 hi)
theorem con_f {f : Nat → Nat} {M x : Nat} (hx : x < M) : Con (eds f M) x (f x) := Con.edge (eds_mem hx)
theorem con_it {f : Nat → Nat} {M : Nat} (h : Bij f M) {x : Nat} (hx : x < M) : ∀ i, Con (eds f M) x (it f i x) := by
  intro i
  induction i with
  | zero => exact Con.refl _ _
  | succ i ih => exact ih.trans (con_f (it_lt h hx i))
theorem it_con {f : Nat → Nat} {M : Nat} (h : Bij f M) {x y : Nat} (hx : x < M) (hc : Con (eds f M) x y) : ∃ i, it f i x = y := by
  refine hc (fun z => ∃ i, it f i x = z) (closed_eds.2 fun z hz => ⟨?_, ?_⟩) ⟨0, rfl⟩
  · rintro ⟨i, rfl⟩
    exact ⟨i + 1, rfl⟩
  · rintro ⟨i, e⟩
    cases i with
    | zero =>
      obtain ⟨p, h0, hp⟩ := period h hx
      cases p with
      | zero => omega
      | succ p =>
        refine ⟨p, h.inj _ _ (it_lt h hx p) hz ?_⟩
        have e1 : x = f z := e
        exact Eq.trans hp e1
    | succ i => exact ⟨i, h.inj _ _ (it_lt h hx i) hz e⟩
theorem first_of {P : Nat → Prop} (h : ∃ i, P i) : ∃ r, P r ∧ ∀ i, i < r → ¬ P i := by
  obtain ⟨i, hi⟩ := h
  induction i using Nat.strongRecOn with
  | ind i ih =>
    by_cases hs : ∃ j, j < i ∧ P j
    · obtain ⟨j, hj, hp⟩ := hs
      exact ih j hj hp
    · exact ⟨i, hi, fun j hj hp => hs ⟨j, hj, hp⟩⟩
/-- Two places traded. -/
def tr (f : Nat → Nat) (a b x : Nat) : Nat := if x = a then f b else if x = b then f a else f x
theorem tr_a (f : Nat → Nat) (a b : Nat) : tr f a b a = f b := by simp [tr]
theorem tr_b (f : Nat → Nat) (a b : Nat) : tr f a b b = f a := by
  unfold tr
  by_cases h : b = a
  · rw [if_pos h, h]
  · rw [if_neg h, if_pos rfl]
theorem tr_o (f : Nat → Nat) {a b x : Nat} (h1 : x ≠ a) (h2 : x ≠ b) : tr f a b x = f x := by simp [tr, h1, h2]
theorem tr_tr (f : Nat → Nat) (a b x : Nat) : tr (tr f a b) a b x = f x := by
  by_cases h1 : x = a
  · rw [h1, tr_a, tr_b]
  · by_cases h2 : x = b
    · rw [h2, tr_b, tr_a]
    · rw [tr_o _ h1 h2, tr_o _ h1 h2]
theorem Bij.tr {f : Nat → Nat} {M : Nat} (h : Bij f M) {a b : Nat} (ha : a < M) (hb : b < M) : Bij (tr f a b) M := by
  have key : ∀ x, x < M → ∃ z, z < M ∧ Proofs.Ytagaajlbkfkaiaa.tr f a b x = f z ∧ (x = a → z = b) ∧ (x = b → z = a) ∧ (x ≠ a → x ≠ b → z = x) := by
    intro x hx
    by_cases h1 : x = a
    · exact ⟨b, hb, by rw [h1, tr_a], fun _ => rfl, fun e => by omega, fun q => absurd h1 q⟩
    · by_cases h2 : x = b
      · exact ⟨a, ha, by rw [h2, tr_b], fun q => absurd q h1, fun _ => rfl, fun _ q => absurd h2 q⟩
      · exact ⟨x, hx, tr_o f h1 h2, fun q => absurd q h1, fun q => absurd q h2, fun _ _ => rfl⟩
  refine ⟨fun x hx => ?_, fun x y hx hy e => ?_⟩
  · obtain ⟨z, hz, e, -⟩ := key x hx
    rw [e]
    exact h.lt z hz
  · obtain ⟨z, hz, e1, p1, p2, p3⟩ := key x hx
    obtain ⟨u, hu, e2, q1, q2, q3⟩ := key y hy
    have e3 : z = u := h.inj z u hz hu (by rw [← e1, ← e2, e])
    by_cases c1 : x = a
    · have := p1 c1
      by_cases c2 : y = a
      · omega
      · by_cases c3 : y = b
        · have := q2 c3; omega
        · have := q3 c2 c3; omega
    · by_cases c1b : x = b
      · have := p2 c1b
        by_cases c2 : y = a
        · have := q1 c2; omega
        · by_cases c3 : y = b
          · omega
          · have := q3 c2 c3; omega
      · have := p3 c1 c1b
        by_cases c2 : y = a
        · have := q1 c2; omega
        · by_cases c3 : y = b
          · have := q2 c3; omega
          · have := q3 c2 c3; omega
theorem con_tr {f : Nat → Nat} {M : Nat} (h : Bij f M) {a b : Nat} (ha : a < M) (hb : b < M) (hn : ¬ Con (eds f M) a b) : Con (eds (tr f a b) M) a b := by
  intro S hS hSa
  have hS' := closed_eds.1 hS
  have h1 : S (f b) := by have := (hS' a ha).1 hSa; rwa [tr_a] at this
  obtain ⟨p, h0, hp⟩ := period h hb
  have key : ∀ i, S b ∨ S (it f (i + 1) b) := by
    intro i
    induction i with
    | zero => exact Or.inr h1
    | succ i ih =>
      rcases ih with ih | ih
      · exact Or.inl ih
      · by_cases e : it f (i + 1) b = b
        · rw [e] at ih; exact Or.inl ih
        · have ea : it f (i + 1) b ≠ a := fun q => hn (q ▸ (con_it h hb (i + 1)).symm)
          have := (hS' _ (it_lt h hb (i + 1))).1 ih
          rw [tr_o f ea e] at this
          exact Or.inr this
  have := key (p - 1)
  rw [show p - 1 + 1 = p by omega, hp] at this
  exact this.elim id id
/-- Not joined ahead: joined behind, and nothing else. -/
theorem con_join {f : Nat → Nat} {M : Nat} (h : Bij f M) {a b : Nat} (ha : a < M) (hb : b < M) (hn : ¬ Con (eds f M) a b) (x y : Nat) : Con (eds (tr f a b) M) x y ↔ Con (eds f M ++ [(a, b)]) x y := by
  have hab := con_tr h ha hb hn
  constructor
  · intro hc S hS
    refine hc S (closed_eds.2 fun i hi => ?_)
    have h1 := closed_eds.1 (fun e he => hS e (List.mem_append_left _ he) : Closed (eds f M) S)
    have h2 : S a ↔ S b := hS (a, b) (List.mem_append_right _ (List.Mem.head _))
    by_cases e1 : i = a
    · rw [e1, tr_a, h2]; exact h1 b hb
    · by_cases e2 : i = b
      · rw [e2, tr_b, ← h2]; exact h1 a ha
      · rw [tr_o f e1 e2]; exact h1 i hi
  · intro hc S hS
    have h1 := closed_eds.1 hS
    have h2 : S a ↔ S b := ⟨hab S hS, hab.symm S hS⟩
    refine hc S fun e he => ?_
    rcases List.mem_append.1 he with he | he
    · obtain ⟨i, hi, rfl⟩ := List.mem_map.1 he
      have hi := List.mem_range.1 hi
      show S i ↔ S (f i)
      by_cases e1 : i = a
      · rw [e1, h2]; have := h1 b hb; rwa [tr_b] at this
      · by_cases e2 : i = b
        · rw [e2, ← h2]; have := h1 a ha; rwa [tr_a] at this
        · have := h1 i hi; rwa [tr_o f e1 e2] at this
    · rw [List.mem_singleton.1 he]; exact h2
/-- Joined ahead: apart behind. -/
theorem con_part {f : Nat → Nat} {M : Nat} (h : Bij f M) {a b : Nat} (ha : a < M) (hb : b < M) (hab : a ≠ b) (hc : Con (eds f M) a b) : ¬ Con (eds (tr f a b) M) a b := by
  intro hcon
  obtain ⟨r, hr, hmin⟩ := first_of (it_con h hb hc.symm)
  have r0 : 0 < r := Nat.pos_of_ne_zero fun q => by rw [q] at hr; exact hab hr.symm
  have hB := h.tr ha hb
  have nb : ∀ i, 1 ≤ i → i ≤ r → it f i b ≠ b := fun i h1 h2 e => by
    by_cases e2 : i = r
    · rw [e2, hr] at e; exact hab e
    · refine hmin (r - i) (by omega) ?_
      have := it_add f b (r - i) i
      rw [e, show r - i + i = r by omega, hr] at this
      exact this.symm
  have nxt : ∀ i, 1 ≤ i → i < r → tr f a b (it f i b) = it f (i + 1) b := fun i h1 h2 => tr_o f (hmin i h2) (nb i h1 (by omega))
  have hS : Closed (eds (tr f a b) M) fun z => ∃ i, 1 ≤ i ∧ i ≤ r ∧ it f i b = z := closed_eds.2 fun z hz => by
    constructor
    · rintro ⟨i, h1, h2, rfl⟩
      by_cases e : i = r
      · rw [e, hr, tr_a]; exact ⟨1, Nat.le_refl _, r0, rfl⟩
      · exact ⟨i + 1, by omega, by omega, (nxt i h1 (by omega)).symm⟩
    · rintro ⟨i, h1, h2, e⟩
      by_cases e1 : i = 1
      · refine ⟨r, r0, Nat.le_refl _, ?_⟩
        rw [hr]
        refine hB.inj a z ha hz ?_
        rw [tr_a, ← e, e1]
        rfl
      · refine ⟨i - 1, by omega, by omega, ?_⟩
        refine hB.inj _ z (it_lt h hb _) hz ?_
        rw [nxt (i - 1) (by omega) (by omega), ← e, show i - 1 + 1 = i by omega]
  obtain ⟨i, h1, h2, e⟩ := hcon _ hS ⟨r, r0, Nat.le_refl _, hr⟩
  exact nb i h1 h2 e

/-- How many are the lowest of theirs, among some. -/
def rq (W : List Nat) (Q : Nat → Bool) : Nat → Nat
  | 0 => 0
  | k + 1 => rq W Q k + (if W.getD k 0 = k ∧ Q k = true then 1 else 0)
theorem rq_mer {Ed : List (Nat × Nat)} {n : Nat} {W : List Nat} (h : Least Ed n W) (Q : Nat → Bool) {x y : Nat} (hx : x < n) (hy : y < n) (hne : W.getD x 0 ≠ W.getD y 0) : ∀ k, k ≤ n → rq (mer W x y) Q k + (if max (W.getD x 0) (W.getD y 0) < k ∧ Q (max (W.getD x 0) (W.getD y 0)) = true then 1 else 0) = rq W Q k := by
  have rx := h.root hx
  have ry := h.root hy
  generalize hmx : max (W.getD x 0) (W.getD y 0) = m
  have hmr : W.getD m 0 = m := by
    rcases Nat.le_total (W.getD x 0) (W.getD y 0) with hle | hle
    · have : m = W.getD y 0 := by omega
      rw [this]; exact ry
    · have : m = W.getD x 0 := by omega
      rw [this]; exact rx
  intro k
  induction k with
  | zero => intro _; simp [rq]
  | succ k ih =>
    intro hk
    have i1 := ih (by omega)
    have hm := mer_at W x y k (by rw [h.1]; omega)
    rw [hmx] at hm
    simp only [rq]
    by_cases he : k = m
    · subst he
      rw [if_pos hmr] at hm
      rw [if_neg (by omega)] at i1
      rw [if_neg (show ¬ ((mer W x y).getD k 0 = k ∧ Q k = true) from fun q => by have := q.1; omega)]
      by_cases hq : Q k = true
      · rw [if_pos (show k < k + 1 ∧ Q k = true from ⟨by omega, hq⟩), if_pos (show W.getD k 0 = k ∧ Q k = true from ⟨hmr, hq⟩)]; omega
      · rw [if_neg (show ¬ (k < k + 1 ∧ Q k = true) from fun q => hq q.2), if_neg (show ¬ (W.getD k 0 = k ∧ Q k = true) from fun q => hq q.2)]; omega
    · have hiff : ((mer W x y).getD k 0 = k) ↔ (W.getD k 0 = k) := by
        by_cases hr : W.getD k 0 = k
        · rw [if_neg (by omega)] at hm
          rw [hm]
        · have h2 : ¬ (mer W x y).getD k 0 = k := by
            rw [hm]
            split
            · intro e
              rcases Nat.le_total (W.getD x 0) (W.getD y 0) with hle2 | hle2
              · have e1 : k = W.getD x 0 := by omega
                exact hr (by rw [e1]; exact rx)
              · have e1 : k = W.getD y 0 := by omega
                exact hr (by rw [e1]; exact ry)
            · exact hr
          exact ⟨fun q => absurd q h2, fun q => absurd q hr⟩
      rw [show (if (mer W x y).getD k 0 = k ∧ Q k = true then 1 else 0) = (if W.getD k 0 = k ∧ Q k = true then 1 else 0) by simp only [hiff]]
      by_cases hq : m < k ∧ Q m = true
      · rw [if_pos hq] at i1
        rw [if_pos (show m < k + 1 ∧ Q m = true from ⟨by omega, hq.2⟩)]
        omega
      · rw [if_neg hq] at i1
        rw [if_neg (show ¬ (m < k + 1 ∧ Q m = true) from fun q => hq ⟨by omega, q.2⟩)]
        omega
/-- The rings of a renaming, each by its lowest; how many lie among some. -/
def cyW (f : Nat → Nat) (M : Nat) : List Nat := levR (List.range M) (eds f M) M
theorem cyW_least {f : Nat → Nat} {M : Nat} (h : ∀ x, x < M → f x < M) : Least (eds f M) M (cyW f M) := levR_least (eds_lt h) M (Nat.le_refl _)
def cyN (f : Nat → Nat) (M : Nat) (Q : Nat → Bool) : Nat := rq (cyW f M) Q M
theorem least_congr {E F : List (Nat × Nat)} {n : Nat} {W : List Nat} (h : Least E n W) (e : ∀ x y, Con E x y ↔ Con F x y) : Least F n W :=
  ⟨h.1, fun v hv => ⟨(e _ _).1 (h.2 v hv).1, fun u hu => (h.2 v hv).2 u ((e _ _).2 hu)⟩⟩
/-- Two rings become one. -/
theorem cyN_join {f : Nat → Nat} {M : Nat} (h : Bij f M) (Q : Nat → Bool) {a b : Nat} (ha : a < M) (hb : b < M) (hn : ¬ Con (eds f M) a b) (hQ : ∀ x y, x < M → Con (eds f M) x y → Q x = Q y) (hab : Q a = Q b) : cyN (tr f a b) M Q + (if Q a = true then 1 else 0) = cyN f M Q := by
  have hW := cyW_least h.lt
  have hW' := cyW_least (h.tr ha hb).lt
  have e : cyW (tr f a b) M = mer (cyW f M) a b := hW'.eq (least_congr (mer_least hW a b ha hb (eds_lt h.lt)) fun x y => (con_join h ha hb hn x y).symm)
  have hne : (cyW f M).getD a 0 ≠ (cyW f M).getD b 0 := fun q => hn ((hW.same ha hb).1 q)
  have hm := rq_mer hW Q ha hb hne M (Nat.le_refl _)
  have la := hW.lt ha
  have lb := hW.lt hb
  have qa := hQ a _ ha (hW.2 a ha).1
  have qb := hQ b _ hb (hW.2 b hb).1
  have qm : Q (max ((cyW f M).getD a 0) ((cyW f M).getD b 0)) = Q a := by
    rcases Nat.le_total ((cyW f M).getD a 0) ((cyW f M).getD b 0) with hle | hle
    · rw [Nat.max_eq_right hle, ← qb, hab]
    · rw [Nat.max_eq_left hle, ← qa]
  rw [qm] at hm
  unfold cyN
  rw [e, ← hm]
  by_cases hq : Q a = true
  · rw [if_pos hq, if_pos ⟨by omega, hq⟩]
  · rw [if_neg hq, if_neg fun q => hq q.2]
theorem eds_congr {f g : Nat → Nat} {M : Nat} (e : ∀ x, x < M → f x = g x) : eds f M = eds g M := by
  unfold eds
  refine List.map_congr_left fun i hi => ?_
  rw [e i (List.mem_range.1 hi)]
theorem cyN_congr {f g : Nat → Nat} {M : Nat} (e : ∀ x, x < M → f x = g x) (Q : Nat → Bool) : cyN f M Q = cyN g M Q := by
  unfold cyN cyW
  rw [eds_congr e]
/-- One ring becomes two. -/
theorem cyN_part {f : Nat → Nat} {M : Nat} (h : Bij f M) (Q : Nat → Bool) {a b : Nat} (ha : a < M) (hb : b < M) (hne : a ≠ b) (hc : Con (eds f M) a b) (hQ : ∀ x y, x < M → Con (eds f M) x y → Q x = Q y) : cyN f M Q + (if Q a = true then 1 else 0) = cyN (tr f a b) M Q := by
  have hn := con_part h ha hb hne hc
  have hB := h.tr ha hb
  have hQ' : ∀ x y, x < M → Con (eds (tr f a b) M) x y → Q x = Q y := fun x y hx hxy => by
    have := hxy (fun z => Q x = Q z) (closed_eds.2 fun i hi => by
      have e : Q i = Q (tr f a b i) := by
        by_cases e1 : i = a
        · rw [e1, tr_a, hQ a b ha hc]; exact hQ b _ hb (con_f hb)
        · by_cases e2 : i = b
          · rw [e2, tr_b, ← hQ a b ha hc]; exact hQ a _ ha (con_f ha)
          · rw [tr_o f e1 e2]; exact hQ i _ hi (con_f hi)
      rw [e]) rfl
    exact this
  have k := cyN_join hB Q ha hb hn hQ' (hQ a b ha hc)
  rw [cyN_congr (fun x _ => tr_tr f a b x)] at k
  exact k
end Go.Proofs.Ytagaajlbkfkaiaa
/- Plain mathematics: the walks along a renaming begin each at the lowest of its ring: there are as many as rings. -/
namespace Go.Proofs.Ytagaajlbkfkaiaa

def up0 (f : Nat → Nat) (x : Nat) : Nat := if x = 0 then 0 else f x
theorem up0_pos (f : Nat → Nat) {x : Nat} (h : 1 ≤ x) : up0 f x = f x := by unfold up0; rw [if_neg (by omega)]
theorem bij_up0 {f : Nat → Nat} {n : Nat} (hf : ∀ a, 1 ≤ a → a ≤ n → 1 ≤ f a ∧ f a ≤ n) (hi : ∀ a b, 1 ≤ a → a ≤ n → 1 ≤ b → b ≤ n → f a = f b → a = b) : Bij (up0 f) (n + 1) := by
  refine ⟨fun x hx => ?_, fun x y hx hy e => ?_⟩
  · by_cases h : x = 0
    · rw [h]; exact Nat.succ_pos n
    · rw [up0_pos f (by omega)]; have := hf x (by omega) (by omega); omega
  · by_cases h : x = 0
    · by_cases g : y = 0
      · omega
      · rw [h, up0_pos f (show 1 ≤ y by omega)] at e
        have := hf y (by omega) (by omega)
        have e0 : up0 f 0 = 0 := rfl
        omega
    · by_cases g : y = 0
      · rw [g, up0_pos f (show 1 ≤ x by omega)] at e
        have := hf x (by omega) (by omega)
        have e0 : up0 f 0 = 0 := rfl
        omega
      · rw [up0_pos f (show 1 ≤ x by omega), up0_pos f (show 1 ≤ y by omega)] at e
        exact hi x y (by omega) (by omega) (by omega) (by omega) e
theorem walkF_head (f : Nat → Nat) : ∀ (m : Nat) (seen : List Bool) (x z : Nat) (acc : List Nat), (walkF f m seen x (z :: acc)).1.getD 0 0 = z ∧ (walkF f m seen x (z :: acc)).1 ≠ [] := by
  intro m
  induction m with
  | zero => intro seen x z acc; exact ⟨rfl, by simp [walkF]⟩
  | succ m ih =>
    intro seen x z acc
    simp only [walkF]
    split
    · exact ⟨rfl, by simp⟩
    · exact ih _ _ z (acc ++ [x])
theorem walkF_new (f : Nat → Nat) (m : Nat) (seen : List Bool) (x : Nat) (h : un seen x = 1) : (walkF f (m + 1) seen x []).1.getD 0 0 = x ∧ (walkF f (m + 1) seen x []).1 ≠ [] := by
  have h1 : ¬ seen.getD x true = true := fun q => by unfold un at h; rw [if_pos q] at h; omega
  simp only [walkF]
  rw [if_neg h1]
  exact walkF_head f m _ _ x []
theorem un_seen {seen : List Bool} {x : Nat} (h : un seen x = 0) : seen.getD x true = true := by
  refine Classical.byContradiction fun q => ?_
  unfold un at h
  rw [if_neg q] at h
  omega
theorem seen_in {f : Nat → Nat} {n a y : Nat} (h1 : 1 ≤ y) (h2 : y ≤ n) : un (walksTo f n a).2 y = 0 ↔ ∃ l, l ∈ (walksTo f n a).1 ∧ y ∈ l := by
  have h := walksTo_one f n a y h1 h2
  have hc : 1 ≤ (walksTo f n a).1.flatten.count y ↔ ∃ l, l ∈ (walksTo f n a).1 ∧ y ∈ l := by rw [List.one_le_count_iff, List.mem_flatten]
  rw [← hc]
  omega
theorem zero_apart {f : Nat → Nat} {n : Nat} (hf : ∀ a, 1 ≤ a → a ≤ n → 1 ≤ f a ∧ f a ≤ n) {x : Nat} (hx : 1 ≤ x) : ¬ Con (eds (up0 f) (n + 1)) x 0 := fun hc => by
  have := hc (fun z => 1 ≤ z) (closed_eds.2 fun i hi => by
    by_cases h : i = 0
    · subst h; exact Iff.rfl
    · rw [up0_pos f (by omega)]
      have := (hf i (by omega) (by omega)).1
      exact ⟨fun _ => this, fun _ => by omega⟩) hx
  exact absurd this (by decide)
/-- The seen are whole rings. -/
theorem seen_closed {f : Nat → Nat} {n : Nat} (hf : ∀ a, 1 ≤ a → a ≤ n → 1 ≤ f a ∧ f a ≤ n) (hi : ∀ a b, 1 ≤ a → a ≤ n → 1 ≤ b → b ≤ n → f a = f b → a = b) (a : Nat) (ha : a ≤ n) : Closed (eds (up0 f) (n + 1)) fun z => 1 ≤ z ∧ un (walksTo f n a).2 z = 0 := by
  obtain ⟨r1, r2, -⟩ := rings_closed hf hi a ha
  refine closed_eds.2 fun i hin => ?_
  by_cases h : i = 0
  · subst h; exact Iff.rfl
  · rw [up0_pos f (by omega)]
    have hfi := hf i (by omega) (by omega)
    constructor
    · rintro ⟨h1, h2⟩
      obtain ⟨l, hl, hy⟩ := (seen_in h1 (by omega)).1 h2
      exact ⟨hfi.1, (seen_in hfi.1 hfi.2).2 ⟨l, hl, r1 l hl i hy⟩⟩
    · rintro ⟨-, h2⟩
      exact ⟨by omega, r2 i (by omega) (by omega) h2⟩
/-- A walk's arcs are joined to its first. -/
theorem ring_con {f : Nat → Nat} {n : Nat} {l : List Nat} (hm : ∀ y, y ∈ l → 1 ≤ y ∧ y ≤ n) (hc : ∀ i, i + 1 < l.length → l.getD (i + 1) 0 = f (l.getD i 0)) : ∀ i, i < l.length → Con (eds (up0 f) (n + 1)) (l.getD 0 0) (l.getD i 0) := by
  intro i
  induction i with
  | zero => intro _; exact Con.refl _ _
  | succ i ih =>
    intro hi
    have hb := hm _ (at_mem (l := l) (i := i) (by omega))
    have h1 := con_f (f := up0 f) (M := n + 1) (x := l.getD i 0) (by omega)
    rw [up0_pos f hb.1, ← hc i hi] at h1
    exact (ih (by omega)).trans h1
theorem heads_roots {f : Nat → Nat} {n : Nat} (hf : ∀ a, 1 ≤ a → a ≤ n → 1 ≤ f a ∧ f a ≤ n) (hi : ∀ a b, 1 ≤ a → a ≤ n → 1 ≤ b → b ≤ n → f a = f b → a = b) : ∀ a, a ≤ n →
    (∀ l, l ∈ (walksTo f n a).1 → 1 ≤ l.getD 0 0 ∧ l.getD 0 0 ≤ a) ∧
    ∀ Q : Nat → Bool, Q 0 = false → (walksTo f n a).1.countP (fun l => Q (l.getD 0 0)) = rq (cyW (up0 f) (n + 1)) Q (a + 1) := by
  have hB := bij_up0 hf hi
  have hW := cyW_least hB.lt
  intro a
  induction a with
  | zero =>
    intro _
    refine ⟨fun l hl => absurd hl (by simp [walksTo]), fun Q q0 => ?_⟩
    simp [walksTo, rq, q0]
  | succ a ih =>
    intro ha
    obtain ⟨i1, i2⟩ := ih (by omega)
    have hcl := seen_closed hf hi a (by omega)
    have hin := walksTo_mem hf a (by omega)
    obtain ⟨-, -, r3⟩ := rings_closed hf hi a (by omega)
    by_cases hs : un (walksTo f n a).2 (a + 1) = 0
    · have e : walksTo f n (a + 1) = walksTo f n a := by
        simp only [walksTo]
        rw [walkF_seen (un_seen hs)]
        rfl
      rw [e]
      refine ⟨fun l hl => ⟨(i1 l hl).1, by have := (i1 l hl).2; omega⟩, fun Q q0 => ?_⟩
      rw [i2 Q q0]
      have hnr : (cyW (up0 f) (n + 1)).getD (a + 1) 0 ≠ a + 1 := fun q => by
        obtain ⟨l, hl, hy⟩ := (seen_in (by omega) ha).1 hs
        obtain ⟨i, hil, ei⟩ := mem_atZ hy
        have hc := ring_con (f := f) (n := n) (hin l hl).2.2 (r3 l hl).1 i hil
        rw [ei] at hc
        have := (hW.2 (a + 1) (by omega)).2 _ hc.symm
        have := (i1 l hl).2
        omega
      show _ = rq (cyW (up0 f) (n + 1)) Q (a + 1) + (if (cyW (up0 f) (n + 1)).getD (a + 1) 0 = a + 1 ∧ Q (a + 1) = true then 1 else 0)
      rw [if_neg fun q => hnr q.1]
      rfl
    · have hs1 : un (walksTo f n a).2 (a + 1) = 1 := by have := un_le (walksTo f n a).2 (a + 1); omega
      obtain ⟨hh, hne⟩ := walkF_new f n (walksTo f n a).2 (a + 1) hs1
      have e : (walksTo f n (a + 1)).1 = (walksTo f n a).1 ++ [(walkF f (n + 1) (walksTo f n a).2 (a + 1) []).1] := by
        simp only [walksTo]
        rw [if_neg hne]
      rw [e]
      refine ⟨fun l hl => ?_, fun Q q0 => ?_⟩
      · rcases List.mem_append.1 hl with h | h
        · exact ⟨(i1 l h).1, by have := (i1 l h).2; omega⟩
        · rw [List.mem_singleton.1 h, hh]; omega
      · have hr : (cyW (up0 f) (n + 1)).getD (a + 1) 0 = a + 1 := by
          refine Classical.byContradiction fun q => ?_
          have hle := hW.le (v := a + 1) (by omega)
          have hcn := (hW.2 (a + 1) (by omega)).1
          generalize hu : (cyW (up0 f) (n + 1)).getD (a + 1) 0 = u at q hle hcn
          by_cases h0 : u = 0
          · rw [h0] at hcn
            exact zero_apart hf (by omega) hcn
          · have := hcn.symm _ hcl ⟨by omega, walksTo_seen f n a u (by omega) (by omega)⟩
            exact hs this.2
        rw [List.countP_append, i2 Q q0]
        show _ = rq (cyW (up0 f) (n + 1)) Q (a + 1) + (if (cyW (up0 f) (n + 1)).getD (a + 1) 0 = a + 1 ∧ Q (a + 1) = true then 1 else 0)
        rw [List.countP_singleton, hh]
        by_cases hq : Q (a + 1) = true
        · rw [if_pos hq, if_pos ⟨hr, hq⟩]
        · rw [if_neg hq, if_neg fun q => hq q.2]
/-- As many walks among some as rings. -/
theorem walks_cyN {f : Nat → Nat} {n : Nat} (hf : ∀ a, 1 ≤ a → a ≤ n → 1 ≤ f a ∧ f a ≤ n) (hi : ∀ a b, 1 ≤ a → a ≤ n → 1 ≤ b → b ≤ n → f a = f b → a = b) (Q : Nat → Bool) (q0 : Q 0 = false) : (walksTo f n n).1.countP (fun l => Q (l.getD 0 0)) = cyN (up0 f) (n + 1) Q := (heads_roots hf hi n (Nat.le_refl _)).2 Q q0
end Go.Proofs.Ytagaajlbkfkaiaa
/- Tellings of pieces: plain mathematics; the walk of ref.otherEnd. -/
namespace Go.Proofs.Ytagaajlbkfkaiaa
open Go.RowKit

/-- The side at the other end of the arc on a side. -/
def nbS (C : List Cr) (k s : Nat) : Nat := enS C ((C.getD k Cr.none).arc s).toNat (!(C.getD k Cr.none).comes s)
theorem nb_may {C : List Cr} {loops : Int} (hm : mayD C loops = true) (k s : Nat) (hk : k < C.length) (hs : s < 4) :
    (1 ≤ ((C.getD k Cr.none).arc s).toNat ∧ ((C.getD k Cr.none).arc s).toNat ≤ 2 * C.length ∧ (C.getD k Cr.none).arc s = (((C.getD k Cr.none).arc s).toNat : Int)) ∧
    endTo C ((C.getD k Cr.none).arc s).toNat (!(C.getD k Cr.none).comes s) C.length = ((nbC C k s : Int), (nbS C k s : Int)) ∧ nbC C k s < C.length ∧ nbS C k s < 4 := by
  have hf := may_fit hm k s hk hs
  have g1 := hf.1
  have g2 := hf.2.1
  have ha : 1 ≤ ((C.getD k Cr.none).arc s).toNat ∧ ((C.getD k Cr.none).arc s).toNat ≤ 2 * C.length := by omega
  have h := en_may hm _ (!(C.getD k Cr.none).comes s) ha.1 ha.2
  exact ⟨⟨ha.1, ha.2, by omega⟩, h.1, h.2.1, h.2.2.1⟩
/-- One side of crossing c is told: the crossings numbered so far, and the code. -/
def teS (C : List Cr) (c : Nat) (p : List Nat × List Int) (s : Nat) : List Nat × List Int :=
  let o := if nbC C c s ∈ p.1 then p.1 else p.1 ++ [nbC C c s]
  (o, p.2 ++ [(o.idxOf (nbC C c s) : Int), (nbS C c s : Int)])
/-- Crossing number i is told, its first k sides. -/
def teK (C : List Cr) (i : Nat) (p : List Nat × List Int) : Nat → List Nat × List Int
  | 0 => (p.1, p.2 ++ [if (C.getD (p.1.getD i 0) Cr.none).plus = true then 1 else 0])
  | k + 1 => teS C (p.1.getD i 0) (teK C i p k) k
/-- The first i crossings are told. -/
def teI (C : List Cr) (first : Nat) : Nat → List Nat × List Int
  | 0 => ([first], [])
  | i + 1 => if i < (teI C first i).1.length then teK C i (teI C first i) 4 else teI C first i
/-- The telling from a crossing on. -/
def te (C : List Cr) (first : Nat) : List Nat × List Int := teI C first C.length
theorem teS_pre (C : List Cr) (c : Nat) (p : List Nat × List Int) (s : Nat) : p.1 <+: (teS C c p s).1 := by
  unfold teS
  simp only
  split
  · exact List.prefix_rfl
  · exact List.prefix_append _ _
theorem teK_pre (C : List Cr) (i : Nat) (p : List Nat × List Int) (k : Nat) : p.1 <+: (teK C i p k).1 := by
  induction k with
  | zero => exact List.prefix_rfl
  | succ k ih => exact ih.trans (teS_pre _ _ _ _)
/-- What is numbered: different crossings of the diagram. -/
structure TeOk (C : List Cr) (p : List Nat × List Int) : Prop where
  lt : ∀ x, x ∈ p.1 → x < C.length
  nd : p.1.Nodup
theorem TeOk.few {C : List Cr} {p : List Nat × List Int} (h : TeOk C p) : p.1.length ≤ C.length := by
  have := List.Nodup.length_le_of_subset h.nd (l₂ := List.range C.length) (fun x hx => List.mem_range.2 (h.lt x hx))
  simpa using this
theorem teS_ok {C : List Cr} {loops : Int} (hm : mayD C loops = true) {c : Nat} (hc : c < C.length) {p : List Nat × List Int} (h : TeOk C p) {s : Nat} (hs : s < 4) : TeOk C (teS C c p s) := by
  have hn := (nb_may hm c s hc hs).2.2.1
  unfold teS
  simp only
  split
  · exact ⟨h.lt, h.nd⟩
  · rename_i hno
    refine ⟨fun x hx => ?_, ?_⟩
    · rcases List.mem_append.1 hx with hx | hx
      · exact h.lt x hx
      · simp only [List.mem_singleton] at hx; omega
    · refine List.nodup_append.2 ⟨h.nd, by simp, fun a ha b hb e => ?_⟩
      simp only [List.mem_singleton] at hb
      rw [e, hb] at ha
      exact hno ha

end Go.Proofs.Ytagaajlbkfkaiaa
/- Which of two codes is less; the walk of ref.lessCode. -/
namespace Go.Proofs.Ytagaajlbkfkaiaa
open Go.RowKit

end Go.Proofs.Ytagaajlbkfkaiaa
/- Which of two tellings is less: the walks of cmp.Compare, slices.Compare and canon.compare. -/
namespace Go.Proofs.Ytagaajlbkfkaiaa
open Go.RowKit

/-- As cmp.Compare tells it. -/
def cmpI (x y : Int) : Int := if x < y then -1 else if y < x then 1 else 0
/-- As slices.Compare tells it. -/
def lexC : List Int → List Int → Int
  | [], [] => 0
  | [], _ :: _ => -1
  | _ :: _, [] => 1
  | x :: s, y :: t => if x = y then lexC s t else cmpI x y
/-- As canon.compare tells it. -/
def cmpT (p q : List Nat × List Int) : Int := if p.1.length = q.1.length then lexC p.2 q.2 else cmpI p.1.length q.1.length
theorem isNaN_any (x : Int) (w : World) : Calls Try.prog 135 #[.int .i64 x] w fun e w' => e = .returned (.bool false) ∧ w' = w := by
  go_enter Try.func135, Try.ntmps135
  go_wp2
  go_ret
  exact ⟨by simp, rfl⟩
set_option maxHeartbeats 1000000 in
theorem cmpI_any (x y : Int) (w : World) : Calls Try.prog 128 #[.int .i64 x, .int .i64 y] w fun e w' => e = .returned (.int .i64 (cmpI x y)) ∧ w' = w := by
  go_enter Try.func128, Try.ntmps128
  go_wp2_with (go_at_call 135; refine (isNaN_any _ _).mono ?_; rintro e w' ⟨rfl, hw⟩; rw [hw])
  all_goals (go_ret; refine ⟨?_, rfl⟩; unfold cmpI; (repeat' split) <;> first | rfl | (exfalso; omega))
theorem cmpI_zero {x y : Int} : cmpI x y = 0 ↔ x = y := by
  unfold cmpI
  constructor
  · intro h; split at h
    · omega
    · split at h <;> omega
  · intro h; subst h; simp
theorem cmpI_lt {x y : Int} : cmpI x y < 0 ↔ x < y := by
  unfold cmpI
  constructor
  · intro h; split at h
    · assumption
    · split at h <;> omega
  · intro h; rw [if_pos h]; decide
theorem lexC_drop (a b : List Int) (i : Nat) (h : ∀ q, q < i → a.getD q 0 = b.getD q 0) (ha : i ≤ a.length) (hb : i ≤ b.length) : lexC a b = lexC (a.drop i) (b.drop i) := by
  induction i with
  | zero => rfl
  | succ i ih =>
    rw [ih (fun q hq => h q (by omega)) (by omega) (by omega)]
    have e := h i (by omega)
    rw [List.getD_eq_getElem?_getD, List.getD_eq_getElem?_getD, List.getElem?_eq_getElem (show i < a.length by omega), List.getElem?_eq_getElem (show i < b.length by omega)] at e
    rw [List.drop_eq_getElem_cons (show i < a.length by omega), List.drop_eq_getElem_cons (show i < b.length by omega), lexC, if_pos (by simpa using e)]
theorem lexC_at (a b : List Int) (i : Nat) (h : ∀ q, q < i → a.getD q 0 = b.getD q 0) (ha : i < a.length) (hb : i < b.length) (hne : a.getD i 0 ≠ b.getD i 0) : lexC a b = cmpI (a.getD i 0) (b.getD i 0) := by
  rw [lexC_drop a b i h (by omega) (by omega)]
  rw [List.getD_eq_getElem?_getD, List.getD_eq_getElem?_getD, List.getElem?_eq_getElem ha, List.getElem?_eq_getElem hb] at hne ⊢
  rw [List.drop_eq_getElem_cons ha, List.drop_eq_getElem_cons hb, lexC, if_neg (by simpa using hne)]
  rfl

set_option maxHeartbeats 2000000 in
set_option maxRecDepth 100000 in
theorem compareInts_any (v1 v2 : Value) (l m : List Int) (w : World) (hl : l.length ≤ 1000) (hm : m.length ≤ 1000) (h1 : Slots w w.heap.size v1 (intsV l)) (h2 : Slots w w.heap.size v2 (intsV m)) :
    Calls Try.prog 129 #[v1, v2] w fun e w' => e = .returned (.int .i64 (lexC l m)) ∧ w' = w := by
  obtain ⟨a1, c1, rfl, g1⟩ := h1
  obtain ⟨a2, c2, rfl, g2⟩ := h2
  rw [intsV_len] at g1 g2
  rw [intsV_len, intsV_len]
  have HG1 : Hid (0 < l.length → ∃ b off, a1 = some ⟨b, off, none⟩ ∧ b < w.heap.size ∧ ∀ i, i < l.length → w.cell? ⟨b, off + i, none⟩ = some ((intsV l).getD i (.bool false))) := g1
  have HG2 : Hid (0 < m.length → ∃ b off, a2 = some ⟨b, off, none⟩ ∧ b < w.heap.size ∧ ∀ i, i < m.length → w.cell? ⟨b, off + i, none⟩ = some ((intsV m).getD i (.bool false))) := g2
  have HV : Hid (∀ l : List Int, ∀ i, i < l.length → (intsV l).getD i (.bool false) = .int .i64 (l.getD i 0)) := fun l i hi => by rw [List.getD_eq_getElem?_getD, intsV_get l i hi]; rfl
  clear g1 g2
  obtain ⟨r, hr⟩ : ∃ r, lexC l m = r := ⟨_, rfl⟩
  have HLC : Hid (lexC l m = r) := hr
  rw [hr]
  clear hr
  go_enter Try.func129, Try.ntmps129
  go_wp2
  go_loopw [11] (fun v11 wr => ∃ k : Nat, k ≤ l.length ∧ k ≤ m.length ∧ v11 = .int .i64 k ∧ Hid (∀ q, q < k → l.getD q 0 = m.getD q 0) ∧ wr = w) (fun v11 _ => l.length - (intOf v11).toNat)
  case atStart => exact ⟨0, Nat.zero_le _, Nat.zero_le _, rfl, (fun q hq => absurd hq (Nat.not_lt_zero _) : ∀ q, q < 0 → l.getD q 0 = m.getD q 0), rfl⟩
  case round =>
    obtain ⟨k, hk, hkm, rfl, heq, rfl⟩ := hrel
    by_cases hlt : k < l.length
    · obtain ⟨b1, o1, rfl, hb1, q1⟩ := HG1.out (by omega)
      have p1 := q1 k hlt
      rw [HV.out l k hlt] at p1
      have hki : (k : Int) < (l.length : Int) := by omega
      by_cases hlm : k < m.length
      · obtain ⟨b2, o2, rfl, hb2, q2⟩ := HG2.out (by omega)
        have p2 := q2 k hlm
        rw [HV.out m k hlm] at p2
        obtain ⟨x, hx⟩ : ∃ x, l.getD k 0 = x := ⟨_, rfl⟩
        obtain ⟨y, hy⟩ : ∃ y, m.getD k 0 = y := ⟨_, rfl⟩
        have HX : Hid (l.getD k 0 = x) := hx
        have HY : Hid (m.getD k 0 = y) := hy
        rw [hx] at p1
        rw [hy] at p2
        have hdm : decide ((m.length : Int) ≤ (k : Int)) = false := decide_eq_false (by omega)
        have hdm2 : decide (m.length ≤ k) = false := decide_eq_false (by omega)
        clear q1 q2 hx hy
        by_cases hxy : x = y
        · subst hxy
          have HC : Hid (cmpI x x = 0) := cmpI_zero.2 rfl
          go_wp2_with (go_at_call 128; refine (cmpI_any x x _).mono ?_; rw [HC.out]; rintro e w' ⟨rfl, hw⟩; rw [hw])
          go_roundw
          case rel =>
            refine ⟨k + 1, by omega, by omega, by go_num, (fun q hq => ?_ : ∀ q, q < k + 1 → l.getD q 0 = m.getD q 0), by first | rfl | trivial⟩
            by_cases e : q = k
            · subst e; rw [HX.out, HY.out]
            · exact heq.out q (by omega)
          case measure => simp [intOf]; omega
        · have hne : cmpI x y ≠ 0 := fun h => hxy (cmpI_zero.1 h)
          obtain ⟨z, hgz⟩ : ∃ z, cmpI x y = z := ⟨_, rfl⟩
          obtain rfl : r = z := by
            rw [← HLC.out, lexC_at l m k heq.out hlt hlm (by rw [HX.out, HY.out]; exact hxy), HX.out, HY.out, hgz]
          have HZ : Hid (cmpI x y = r) := hgz
          rw [hgz] at hne
          have hz : (r != 0) = true := by simp [hne]
          have hz2 : (r == 0) = false := beq_eq_false_iff_ne.2 hne
          clear hgz
          go_wp2_with (go_at_call 128; refine (cmpI_any x y _).mono ?_; rw [HZ.out]; rintro e w' ⟨rfl, hw⟩; rw [hw])
          go_ret
          exact ⟨rfl, rfl⟩
      · obtain rfl : k = m.length := by omega
        have hdm : decide ((m.length : Int) ≤ (m.length : Int)) = true := decide_eq_true (by omega)
        obtain rfl : r = 1 := by
          rw [← HLC.out, lexC_drop l m m.length heq.out (by omega) (Nat.le_refl _), List.drop_length, List.drop_eq_getElem_cons hlt]
          rfl
        go_wp2
        go_ret
        exact ⟨rfl, rfl⟩
    · obtain rfl : k = l.length := by omega
      by_cases hlm : l.length < m.length
      · have hdm : decide ((l.length : Int) < (m.length : Int)) = true := decide_eq_true (by omega)
        obtain rfl : r = -1 := by
          rw [← HLC.out, lexC_drop l m l.length heq.out (Nat.le_refl _) hkm, List.drop_length, List.drop_eq_getElem_cons hlm]
          rfl
        go_wp2
        go_ret
        exact ⟨rfl, rfl⟩
      · have hll : m.length = l.length := by omega
        have hdm : decide ((l.length : Int) < (m.length : Int)) = false := decide_eq_false (by omega)
        obtain rfl : r = 0 := by
          rw [← HLC.out, lexC_drop l m l.length heq.out (Nat.le_refl _) hkm, List.drop_length, List.drop_eq_nil_of_le (by omega)]
          rfl
        clear hll
        go_wp2
        go_ret
        exact ⟨rfl, rfl⟩

set_option maxHeartbeats 2000000 in
set_option maxRecDepth 100000 in
/-- canon.compare: two boxes are laid, and nothing else. -/
theorem compareT_any (vo1 vc1 vo2 vc2 : Value) (p q : List Nat × List Int) (w : World) (hp : p.2.length ≤ 1000) (hq : q.2.length ≤ 1000) (h1 : ∃ a c, vo1 = .slice a p.1.length c) (h2 : ∃ a c, vo2 = .slice a q.1.length c) (h3 : Slots w w.heap.size vc1 (intsV p.2)) (h4 : Slots w w.heap.size vc2 (intsV q.2)) :
    Calls Try.prog 120 #[.agg #[vo1, vc1], .agg #[vo2, vc2]] w fun e w' => e = .returned (.int .i64 (cmpT p q)) ∧ w' = (w.alloc (.cells #[vo1, vc1] 148)).alloc (.cells #[vo2, vc2] 148) := by
  obtain ⟨a1, c1, rfl⟩ := h1
  obtain ⟨a2, c2, rfl⟩ := h2
  have hcT : cmpT p q = if p.1.length = q.1.length then lexC p.2 q.2 else cmpI p.1.length q.1.length := rfl
  obtain ⟨w0, hw0⟩ : ∃ w0, w0 = (w.alloc (.cells #[.slice a1 p.1.length c1, vc1] 148)).alloc (.cells #[.slice a2 q.1.length c2, vc2] 148) := ⟨_, rfl⟩
  have HW0 : Hid (w0 = (w.alloc (.cells #[.slice a1 p.1.length c1, vc1] 148)).alloc (.cells #[.slice a2 q.1.length c2, vc2] 148)) := hw0
  have hs0 : w0.heap.size = w.heap.size + 2 := by rw [hw0]; simp
  have hB0 : Below w.heap.size w w0 := by rw [hw0]; exact below2 _ _ _
  have g0 : w0.heap[w.heap.size]? = some (.cells #[.slice a1 p.1.length c1, vc1] 148 (0, 0)) := by rw [hw0]; exact alloc_old (alloc_at rfl)
  have g1 : w0.heap[w.heap.size + 1]? = some (.cells #[.slice a2 q.1.length c2, vc2] 148 (0, 0)) := by rw [hw0]; exact alloc_at (by simp)
  have t0 : w0.cell? ⟨w.heap.size, 0, none⟩ = some (.slice a1 p.1.length c1) := block_cell g0 rfl
  have t1 : w0.cell? ⟨w.heap.size, 1, none⟩ = some vc1 := block_cell g0 rfl
  have t2 : w0.cell? ⟨w.heap.size + 1, 0, none⟩ = some (.slice a2 q.1.length c2) := block_cell g1 rfl
  have t3 : w0.cell? ⟨w.heap.size + 1, 1, none⟩ = some vc2 := block_cell g1 rfl
  have HS : Hid (Slots w0 w0.heap.size vc1 (intsV p.2) ∧ Slots w0 w0.heap.size vc2 (intsV q.2)) := ⟨(h3.on hB0).mono hB0.size, (h4.on hB0).mono hB0.size⟩
  obtain ⟨a3, c3, rfl, -⟩ := h3
  obtain ⟨a4, c4, rfl, -⟩ := h4
  clear hw0 hB0 g0 g1
  simp only [intsV_len] at t1 t3 HS HW0 ⊢
  have l0 : w.heap.size < w0.heap.size := by omega
  have l1 : w.heap.size + 1 < w0.heap.size := by omega
  by_cases hpq : p.1.length = q.1.length
  · rw [if_pos hpq] at hcT
    rw [hcT]
    have HZ : Hid (cmpI (p.1.length : Int) (q.1.length : Int) = 0) := cmpI_zero.2 (by omega)
    clear hcT hpq
    have HCI : Hid (∀ W, Slots W W.heap.size (.slice a3 p.2.length c3) (intsV p.2) → Slots W W.heap.size (.slice a4 q.2.length c4) (intsV q.2) → Calls Try.prog 129 #[.slice a3 p.2.length c3, .slice a4 q.2.length c4] W fun e w' => e = .returned (.int .i64 (lexC p.2 q.2)) ∧ w' = W) := fun W h1 h2 => compareInts_any _ _ p.2 q.2 W hp hq h1 h2
    generalize lexC p.2 q.2 = r at HCI ⊢
    go_enter Try.func120, Try.ntmps120
    go_wp2_with (first | (go_at_call 128; rw [← HW0.out]; refine (cmpI_any _ _ _).mono ?_; rw [HZ.out]; rintro e w' ⟨rfl, hw⟩; rw [hw]) | (go_at_call 129; refine (HCI.out _ HS.out.1 HS.out.2).mono ?_; rintro e w' ⟨rfl, hw⟩; rw [hw]))
    go_ret
    exact ⟨rfl, HW0.out⟩
  · rw [if_neg hpq] at hcT
    rw [hcT]
    have hne : cmpI (p.1.length : Int) (q.1.length : Int) ≠ 0 := fun h => hpq (by have := cmpI_zero.1 h; omega)
    obtain ⟨z, hz0⟩ : ∃ z, cmpI (p.1.length : Int) (q.1.length : Int) = z := ⟨_, rfl⟩
    have HZ : Hid (cmpI (p.1.length : Int) (q.1.length : Int) = z) := hz0
    rw [hz0] at hne ⊢
    have hz : (z != 0) = true := by simp [hne]
    have hz2 : (z == 0) = false := beq_eq_false_iff_ne.2 hne
    clear hcT hpq hz0
    go_enter Try.func120, Try.ntmps120
    go_wp2_with (first | (go_at_call 128; rw [← HW0.out]; refine (cmpI_any _ _ _).mono ?_; rw [HZ.out]; rintro e w' ⟨rfl, hw⟩; rw [hw]))
    go_ret
    exact ⟨rfl, HW0.out⟩
end Go.Proofs.Ytagaajlbkfkaiaa
