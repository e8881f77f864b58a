/- The walks of slices.Contains of numbers, of the closure that tells an arc's new number, and of drawing.Renumbered with it. -/
import Derived.Test.YtajmogojekichaaJ0
import Derived.Test.YtajmogojekichaaS1
namespace Go.Proofs.Ytajmogojekichaa
open Go.RowKit

/-- Is a number in a list? -/
def hasG (G : List Nat) (v : Int) : Bool := G.any fun g => decide ((g : Int) = v)
theorem hasG_nat (G : List Nat) (v : Nat) : hasG G (v : Int) = decide (v ∈ G) := by
  unfold hasG
  rw [Bool.eq_iff_iff]
  simp only [List.any_eq_true, decide_eq_true_eq]
  exact ⟨fun ⟨x, hx, e⟩ => by have : x = v := by omega
                              exact this ▸ hx, fun h => ⟨v, h, rfl⟩⟩
theorem hasG_neg (G : List Nat) : hasG G (-1) = false := by
  unfold hasG
  rw [List.any_eq_false]
  intro x _
  simp only [decide_eq_true_eq]
  omega

set_option maxHeartbeats 4000000 in
set_option maxRecDepth 100000 in
theorem indexZ_any (b off cap : Nat) (G : List Nat) (v : Int) (w : World) (hm : G.length ≤ 1000) (hbw : b < w.heap.size) (h : ∀ i, i < G.length → w.cell? ⟨b, off + i, none⟩ = some (.int .i64 (G.getD i 0 : Nat))) :
    Calls Try.prog 181 #[.slice (some ⟨b, off, none⟩) G.length cap, .int .i64 v] w fun e w' => ∃ r : Int, e = .returned (.int .i64 r) ∧ decide (0 ≤ r) = hasG G v ∧ Below w.heap.size w w' := by
  have HC : Hid (∀ i, i < G.length → w.cell? ⟨b, off + i, none⟩ = some (.int .i64 (G.getD i 0 : Nat))) := h
  have HB : Hid (Below w.heap.size w w) := Below.refl _ _
  clear h
  obtain ⟨m, hmm⟩ : ∃ m, m = G.length := ⟨_, rfl⟩
  have HMM : Hid (m = G.length) := hmm
  rw [← hmm] at hm HC ⊢
  clear hmm
  go_enter Try.func181, Try.ntmps181
  go_wp2
  go_loopw [8] (fun v8 wr => ∃ i : Nat, i ≤ m ∧ v8 = .int .i64 (i : Nat) ∧ Hid ((∀ k, k < i → (G.getD k 0 : Int) ≠ v) ∧ Below w.heap.size w wr)) (fun v8 _ => m - (intOf v8).toNat)
  case atStart => exact ⟨0, Nat.zero_le _, rfl, ⟨fun k hk => absurd hk (Nat.not_lt_zero _), HB.out⟩⟩
  case round =>
    clear HB
    rename World => W1
    obtain ⟨i, hin, rfl, hp⟩ := hrel
    by_cases hil : i < m
    · have c0 := bcell hp.out.2 hbw (HC.out i hil)
      obtain ⟨x, hx⟩ : ∃ x, G.getD i 0 = x := ⟨_, rfl⟩
      have HX : Hid (G.getD i 0 = x) := hx
      rw [hx] at c0
      clear hx
      by_cases he : v = (x : Int)
      · have heq : (v == (x : Int)) = true := by simp [he]
        have HE : Hid (v = (x : Int)) := he
        clear he
        have HG : Hid (hasG G v = true) := (by
          unfold hasG
          rw [List.any_eq_true]
          refine ⟨G.getD i 0, ?_, by rw [HX.out, HE.out]; simp⟩
          have hl : i < G.length := by have := HMM.out; omega
          rw [List.getD_eq_getElem?_getD, List.getElem?_eq_getElem hl]
          exact List.getElem_mem hl : hasG G v = true)
        go_wp2
        go_ret
        exact ⟨i, rfl, by rw [HG.out]; simp, hp.out.2⟩
      · have heq : (v == (x : Int)) = false := by simp [he]
        have HE : Hid (v ≠ (x : Int)) := he
        clear he
        go_wp2
        go_roundw
        case rel => exact ⟨i + 1, by omega, by go_num, ⟨fun k hk => by
          by_cases e : k = i
          · rw [e, HX.out]; exact fun q => HE.out q.symm
          · exact hp.out.1 k (by omega), hp.out.2⟩⟩
        case measure => simp only [intOf]; omega
    · obtain rfl : i = m := by omega
      have HG : Hid (hasG G v = false) := (by
        unfold hasG
        rw [List.any_eq_false]
        intro y hy
        obtain ⟨j, hj, rfl⟩ := List.getElem_of_mem hy
        have := hp.out.1 j (by have := HMM.out; omega)
        simpa [List.getD_eq_getElem?_getD, hj] using this : hasG G v = false)
      go_wp2
      go_ret
      exact ⟨-1, rfl, by rw [HG.out]; rfl, hp.out.2⟩

set_option maxHeartbeats 4000000 in
set_option maxRecDepth 100000 in
theorem containsG_any (b off cap : Nat) (G : List Nat) (v : Int) (w : World) (hm : G.length ≤ 1000) (hbw : b < w.heap.size) (h : ∀ i, i < G.length → w.cell? ⟨b, off + i, none⟩ = some (.int .i64 (G.getD i 0 : Nat))) :
    Calls Try.prog 154 #[.slice (some ⟨b, off, none⟩) G.length cap, .int .i64 v] w fun e w' => e = .returned (.bool (hasG G v)) ∧ Below w.heap.size w w' := by
  have HI : Hid (Calls Try.prog 181 #[.slice (some ⟨b, off, none⟩) G.length cap, .int .i64 v] w fun e w' => ∃ r : Int, e = .returned (.int .i64 r) ∧ decide (0 ≤ r) = hasG G v ∧ Below w.heap.size w w') := indexZ_any b off cap G v w hm hbw h
  clear h
  go_enter Try.func154, Try.ntmps154
  go_wp2_with (go_at_call 181; refine HI.out.mono ?_; rintro e9 w2 ⟨r, rfl, hr, hb2⟩; refine Hid.out ?_)
  refine Lib.hid ?_
  have HR : Hid (decide (0 ≤ r) = hasG G v) := hr
  have HB2 : Hid (Below w.heap.size w w2) := hb2
  clear hr hb2
  go_wp2
  go_ret
  exact ⟨ret_bool HR.out.symm, HB2.out⟩

/-- The box that holds the numbers, and the numbers. -/
def NumAt (w : World) (gV g N : Nat) (M : List Nat) : Prop := w.heap[gV]? = some (.cells #[.slice (some ⟨g, 0, none⟩) N N] 36 (0, 0)) ∧ g < w.heap.size ∧ ∀ i, i < N → w.cell? ⟨g, i, none⟩ = some (.int .i64 (M.getD i 0 : Nat))
theorem NumAt.on {B : Nat} {w w' : World} {gV g N : Nat} {M : List Nat} (h : NumAt w gV g N M) (hb : Below B w w') (l1 : gV < B) (l2 : g < B) : NumAt w' gV g N M :=
  ⟨(hb.block _ l1).trans h.1, Nat.lt_of_lt_of_le h.2.1 hb.size, fun i hi => bcell hb l2 (h.2.2 i hi)⟩

set_option maxHeartbeats 2000000 in
set_option maxRecDepth 100000 in
theorem withoutNum_any (s x gV g N : Nat) (M : List Nat) (w : World) (hx : x < N) (hA : NumAt w gV g N M) :
    Calls Try.prog 155 #[.int .i64 (s : Nat), .int .i64 (x : Nat), .pointer (some ⟨gV, 0, none⟩)] w fun e w' => e = .returned (.int .i64 (M.getD x 0 : Nat)) ∧ Below w.heap.size w w' := by
  have c0 : w.cell? ⟨gV, 0, none⟩ = some (.slice (some ⟨g, 0, none⟩) N N) := block_cell hA.1 rfl
  have l0 : gV < w.heap.size := (Array.getElem?_eq_some_iff.1 hA.1).1
  have l1 := hA.2.1
  have c1 := hA.2.2 x hx
  clear hA
  go_enter Try.func155, Try.ntmps155
  go_wp2
  go_ret
  exact ⟨rfl, Below.refl _ _⟩

set_option maxHeartbeats 4000000 in
set_option maxRecDepth 100000 in
theorem renumbered_num (x : Cr) (gV gN N : Nat) (M : List Nat) (w : World) (h1 : ∀ k, k < 4 → 0 ≤ x.arc k ∧ x.arc k < (N : Int)) (hX : NumAt w gV gN N M) :
    Calls Try.prog 117 #[.agg #[.int .i64 x.a, .int .i64 x.b, .int .i64 x.c, .int .i64 x.d, .bool x.plus], .func (.func 155) #[] #[.pointer (some ⟨gV, 0, none⟩)]] w fun e w' => e = .returned (.agg #[.int .i64 (M.getD x.a.toNat 0 : Nat), .int .i64 (M.getD x.b.toNat 0 : Nat), .int .i64 (M.getD x.c.toNat 0 : Nat), .int .i64 (M.getD x.d.toNat 0 : Nat), .bool x.plus]) ∧ Below w.heap.size w w' := by
  have HX : Hid (NumAt w gV gN N M) := hX
  have H1 : Hid (∀ k, k < 4 → 0 ≤ x.arc k ∧ x.arc k < (N : Int)) := h1
  have l1 : gV < w.heap.size := (Array.getElem?_eq_some_iff.1 hX.1).1
  have l2 := hX.2.1
  clear h1 hX
  obtain ⟨w0, hw0⟩ : ∃ w0, w0 = ((w.alloc (.cells #[.int .i64 x.a, .int .i64 x.b, .int .i64 x.c, .int .i64 x.d, .bool x.plus] 99)).alloc (.cells #[.int .i64 0, .int .i64 0, .int .i64 0, .int .i64 0, .bool false] 99)).alloc (.cells #[.int .i64 0, .int .i64 0, .int .i64 0, .int .i64 0] 150) := ⟨_, rfl⟩
  have HW0 : Hid (w0 = ((w.alloc (.cells #[.int .i64 x.a, .int .i64 x.b, .int .i64 x.c, .int .i64 x.d, .bool x.plus] 99)).alloc (.cells #[.int .i64 0, .int .i64 0, .int .i64 0, .int .i64 0, .bool false] 99)).alloc (.cells #[.int .i64 0, .int .i64 0, .int .i64 0, .int .i64 0] 150)) := hw0
  have hs0 : w0.heap.size = w.heap.size + 3 := by rw [hw0]; simp
  have HB0 : Hid (Below w.heap.size w w0) := (by rw [hw0]; exact below3 _ _ _ _ : Below w.heap.size w w0)
  have HT0 : Hid (w0.heap[w.heap.size]? = some (.cells #[.int .i64 x.a, .int .i64 x.b, .int .i64 x.c, .int .i64 x.d, .bool x.plus] 99 (0, 0))) := (by rw [hw0]; exact alloc_old (alloc_old (alloc_at rfl)) : w0.heap[w.heap.size]? = some (.cells #[.int .i64 x.a, .int .i64 x.b, .int .i64 x.c, .int .i64 x.d, .bool x.plus] 99 (0, 0)))
  have HT1 : Hid (w0.heap[w.heap.size + 1]? = some (.cells #[.int .i64 0, .int .i64 0, .int .i64 0, .int .i64 0, .bool false] 99 (0, 0))) := (by rw [hw0]; exact alloc_old (alloc_at (by simp)) : w0.heap[w.heap.size + 1]? = some (.cells #[.int .i64 0, .int .i64 0, .int .i64 0, .int .i64 0, .bool false] 99 (0, 0)))
  obtain ⟨g, hg⟩ : ∃ g : Nat → Int, g = fun k => ((M.getD (x.arc k).toNat 0 : Nat) : Int) := ⟨_, rfl⟩
  have HG : Hid (∀ k, ((M.getD (x.arc k).toNat 0 : Nat) : Int) = g k) := fun k => by rw [hg]
  have HT2 : Hid (w0.heap[w.heap.size + 1 + 1]? = some (.cells (intArr (numTo g 0)) 150 (0, 0))) := (by rw [hw0, numTo_zero]; exact alloc_at (by simp) : w0.heap[w.heap.size + 1 + 1]? = some (.cells (intArr (numTo g 0)) 150 (0, 0)))
  have G0 : ((M.getD x.a.toNat 0 : Nat) : Int) = g 0 := by rw [hg]; rfl
  have G1 : ((M.getD x.b.toNat 0 : Nat) : Int) = g 1 := by rw [hg]; rfl
  have G2 : ((M.getD x.c.toNat 0 : Nat) : Int) = g 2 := by rw [hg]; rfl
  have G3 : ((M.getD x.d.toNat 0 : Nat) : Int) = g 3 := by rw [hg]; rfl
  rw [G0, G1, G2, G3]
  clear hw0 hg G0 G1 G2 G3
  go_enter Try.func117, Try.ntmps117
  go_wp2_with (go_at_call 110; rw [← HW0.out]; refine (arcs_any x _).mono ?_; rintro e9 w1 ⟨rfl, hb1⟩; refine Hid.out ?_)
  refine Lib.hid ?_
  have HB1 : Hid (Below w.heap.size w w1) := HB0.out.trans (hb1.mono (by omega))
  have hs1 := hb1.size
  have HA1 : Hid (w1.heap[w.heap.size + 1 + 1]? = some (.cells (intArr (numTo g 0)) 150 (0, 0))) := (hb1.block _ (by omega)).trans HT2.out
  have HC1 : Hid (w1.heap[w.heap.size]? = some (.cells #[.int .i64 x.a, .int .i64 x.b, .int .i64 x.c, .int .i64 x.d, .bool x.plus] 99 (0, 0))) := (hb1.block _ (by omega)).trans HT0.out
  have HR1 : Hid (w1.heap[w.heap.size + 1]? = some (.cells #[.int .i64 0, .int .i64 0, .int .i64 0, .int .i64 0, .bool false] 99 (0, 0))) := (hb1.block _ (by omega)).trans HT1.out
  clear hb1
  go_wp2
  go_loopw [10] (fun v10 wr => ∃ k : Nat, k ≤ 4 ∧ v10 = .int .i64 (k : Nat) ∧ Hid (wr.heap[w.heap.size + 1 + 1]? = some (.cells (intArr (numTo g k)) 150 (0, 0))) ∧ Below (w.heap.size + 1 + 1) w1 wr) (fun v10 _ => 4 - (intOf v10).toNat)
  case atStart => exact ⟨0, Nat.zero_le _, rfl, HA1.out, Below.refl _ _⟩
  case round =>
    rename World => W1
    obtain ⟨k, hk, rfl, hA, hb⟩ := hrel
    have hsz := hb.size
    by_cases hkl : k < 4
    · have hix := index_arr x k hkl
      have HBX : Hid (NumAt W1 gV gN N M) := HX.out.on (HB1.out.trans (hb.mono (by omega))) l1 l2
      obtain ⟨y, hy⟩ : ∃ y : Nat, x.arc k = (y : Int) := ⟨(x.arc k).toNat, by have := (H1.out k hkl).1; omega⟩
      have hyN : y < N := by have := (H1.out k hkl).2; omega
      have HGK : Hid (((M.getD y 0 : Nat) : Int) = g k) := (by rw [← HG.out k, hy]; rfl : ((M.getD y 0 : Nat) : Int) = g k)
      have HN : Hid (numTo g (k + 1) = (numTo g k).set k (g k)) := (numTo_next g k hkl).symm
      rw [hy] at hix
      clear hy
      go_wp2_with (go_at_call 155; refine (withoutNum_any k y gV gN N M _ hyN HBX.out).mono ?_; rw [HGK.out]; rintro e9 w2 ⟨rfl, hb2⟩; refine Hid.out ?_)
      refine Lib.hid ?_
      have HB2 : Hid (Below W1.heap.size W1 w2) := hb2
      have hs2 := hb2.size
      have hA2 : w2.heap[w.heap.size + 1 + 1]? = some (.cells (intArr (numTo g k)) 150 (0, 0)) := (hb2.block _ (by omega)).trans hA.out
      have HA2 : Hid (w2.heap[w.heap.size + 1 + 1]? = some (.cells (intArr (numTo g k)) 150 (0, 0))) := hA2
      have e0 : w2.cell? ⟨w.heap.size + 1 + 1, k, none⟩ = some (.int .i64 ((numTo g k).getD k 0)) := block_cell hA2 (intArr_get _ k (by rw [numTo_len]; exact hkl))
      have z0 : w2.frozen? ⟨w.heap.size + 1 + 1, k, none⟩ = false := block_frozen hA2
      have hlt : w.heap.size + 1 + 1 < w2.heap.size := by omega
      generalize (numTo g k).getD k 0 = u at e0
      clear hb2 hA2
      go_wp2
      go_roundw
      case rel => exact ⟨k + 1, by omega, by go_num, (by rw [HN.out, ← intArr_set]; exact set_block HA2.out : (w2.setCell ⟨w.heap.size + 1 + 1, k, none⟩ (.int .i64 (g k))).heap[w.heap.size + 1 + 1]? = some (.cells (intArr (numTo g (k + 1))) 150 (0, 0))), (hb.trans (HB2.out.mono (by omega))).grown (set_grown w2 (w.heap.size + 1 + 1) k (.int .i64 (g k))) (by omega) (fun q hq => by have := Option.some.inj hq; omega)⟩
      case measure => simp only [intOf]; omega
    · obtain rfl : k = 4 := by omega
      have hA4 := hA.out
      rw [numTo_four] at hA4
      have hC := (hb.block _ (by omega)).trans HC1.out
      have hR := (hb.block _ (by omega)).trans HR1.out
      have HR : Hid (W1.heap[w.heap.size + 1]? = some (.cells #[.int .i64 0, .int .i64 0, .int .i64 0, .int .i64 0, .bool false] 99 (0, 0))) := hR
      have a0 : W1.cell? ⟨w.heap.size + 1 + 1, 0, none⟩ = some (.int .i64 (g 0)) := block_cell hA4 rfl
      have a1 : W1.cell? ⟨w.heap.size + 1 + 1, 1, none⟩ = some (.int .i64 (g 1)) := block_cell hA4 rfl
      have a2 : W1.cell? ⟨w.heap.size + 1 + 1, 2, none⟩ = some (.int .i64 (g 2)) := block_cell hA4 rfl
      have a3 : W1.cell? ⟨w.heap.size + 1 + 1, 3, none⟩ = some (.int .i64 (g 3)) := block_cell hA4 rfl
      have a4 : W1.cell? ⟨w.heap.size, 4, none⟩ = some (.bool x.plus) := block_cell hC rfl
      have hlt : w.heap.size + 1 + 1 < W1.heap.size := by omega
      have HBW : Hid (Below w.heap.size w W1) := HB1.out.trans (hb.mono (by omega))
      clear hA4 hC hR hA hb
      go_wp2_with (go_at_call 164; refine (crossOf_any ⟨(g 0), (g 1), (g 2), (g 3), x.plus⟩ _).mono ?_; rintro e9 w4 ⟨rfl, hb4⟩; refine Hid.out ?_)
      refine Lib.hid ?_
      have HR4 : Hid (w4.heap[w.heap.size + 1]? = some (.cells #[.int .i64 0, .int .i64 0, .int .i64 0, .int .i64 0, .bool false] 99 (0, 0))) := (hb4.block _ (by omega)).trans HR.out
      have HB4 : Hid (Below w.heap.size w w4) := HBW.out.trans (hb4.mono (by omega))
      have hs4 := hb4.size
      clear hb4 a0 a1 a2 a3 a4
      have r0 : w4.cell? ⟨w.heap.size + 1, 0, none⟩ = some (.int .i64 0) := block_cell HR4.out rfl
      have r1 : w4.cell? ⟨w.heap.size + 1, 1, none⟩ = some (.int .i64 0) := block_cell HR4.out rfl
      have r2 : w4.cell? ⟨w.heap.size + 1, 2, none⟩ = some (.int .i64 0) := block_cell HR4.out rfl
      have r3 : w4.cell? ⟨w.heap.size + 1, 3, none⟩ = some (.int .i64 0) := block_cell HR4.out rfl
      have r4 : w4.cell? ⟨w.heap.size + 1, 4, none⟩ = some (.bool false) := block_cell HR4.out rfl
      have f0 : w4.frozen? ⟨w.heap.size + 1, 0, none⟩ = false := block_frozen HR4.out
      have f1 : w4.frozen? ⟨w.heap.size + 1, 1, none⟩ = false := block_frozen HR4.out
      have f2 : w4.frozen? ⟨w.heap.size + 1, 2, none⟩ = false := block_frozen HR4.out
      have f3 : w4.frozen? ⟨w.heap.size + 1, 3, none⟩ = false := block_frozen HR4.out
      have f4 : w4.frozen? ⟨w.heap.size + 1, 4, none⟩ = false := block_frozen HR4.out
      go_wp2
      have hX := set_block (i := 4) (u := .bool x.plus) (set_block (i := 3) (u := .int .i64 (g 3)) (set_block (i := 2) (u := .int .i64 (g 2)) (set_block (i := 1) (u := .int .i64 (g 1)) (set_block (i := 0) (u := .int .i64 (g 0)) HR4.out))))
      have x0 := block_cell (i := 0) (v := .int .i64 (g 0)) hX rfl
      have x1 := block_cell (i := 1) (v := .int .i64 (g 1)) hX rfl
      have x2 := block_cell (i := 2) (v := .int .i64 (g 2)) hX rfl
      have x3 := block_cell (i := 3) (v := .int .i64 (g 3)) hX rfl
      have x4 := block_cell (i := 4) (v := .bool x.plus) hX rfl
      refine bodyPost_ret (v := .agg #[.int .i64 (g 0), .int .i64 (g 1), .int .i64 (g 2), .int .i64 (g 3), .bool x.plus]) (by simp [results, Try.results117, go_sem, x0, x1, x2, x3, x4]) rfl ⟨rfl, ?_⟩
      have hst : ∀ (W : World) (u : Value) (i : Nat), Below w.heap.size w W → Below w.heap.size w (W.setCell ⟨w.heap.size + 1, i, none⟩ u) := fun W u i h => h.grown (set_grown W (w.heap.size + 1) i u) h.size (fun q hq => by have := Option.some.inj hq; omega)
      exact hst _ _ _ (hst _ _ _ (hst _ _ _ (hst _ _ _ (hst _ _ _ HB4.out))))
end Go.Proofs.Ytajmogojekichaa
