/- The walk of ref.pairing.other. -/
import Derived.Test.YtphhlflcghffbaaTM3
import Derived.Deep.Cut
namespace Go.Proofs.Ytphhlflcghffbaa
open Go.RowKit Go.Maps

theorem drewN_grown2 (W : World) (n : Nat) (r : Option Nat) : W.grownBy (W.drewN n) r := grown_below (below_drewN (Below.refl _ _) n) r
/-- Two roads at most: through a crossing's end, then through a first arc's. -/
def phM (g : Nat) (W : World) : Nat := match W.cell? ⟨g, 0, none⟩ with
  | some (.int _ z) => if 0 ≤ z then 1 else 0
  | _ => 0
theorem phM_at {g x : Nat} {W : World} (h : W.heap[g]? = some (.cells #[.int .i64 (spP x).1, .int .i64 (spP x).2] 120 (0, 0))) : phM g W = if 4 ≤ x then 1 else 0 := by
  unfold phM
  rw [show W.cell? ⟨g, 0, none⟩ = some (.int .i64 (spP x).1) from block_cell h rfl]
  show (if 0 ≤ (spP x).1 then 1 else 0) = _
  unfold spP
  by_cases e : 4 ≤ x
  · rw [if_pos e, if_pos (by simp; omega)]
  · rw [if_neg e, if_neg (by simp; omega)]

set_option maxHeartbeats 16000000 in
set_option maxRecDepth 100000 in
theorem other_any (B : Nat) (P : List (Nat × Nat)) (gA gB cA cB s : Nat) (w : World) (h : PrAt w B P (.slice (some ⟨gA, 0, none⟩) P.length cA) (.slice (some ⟨gB, 0, none⟩) P.length cB)) (hn : P.length ≤ 1000) (hs : 4 ≤ s) (hm1 : hasX P s) (hm2 : mt P s < 4 → hasX P (xr (mt P s)) ∧ 4 ≤ mt P (xr (mt P s))) (hb : ∀ i, i < P.length → (P.getD i (0, 0)).1 < 100 ∧ (P.getD i (0, 0)).2 < 100) (hs2 : s < 100) :
    Calls Try.prog 143 #[.agg #[.slice (some ⟨gA, 0, none⟩) P.length cA, .slice (some ⟨gB, 0, none⟩) P.length cB], spV s] w fun e w' => e = .returned (spV (othR P s)) ∧ Below w.heap.size w w' := by
  have lA := (h.a.lt gA rfl).2
  have lB := (h.b.lt gB rfl).2
  have HCA : Hid (∀ W, Below w.heap.size w W → ∀ i, i < P.length → W.cell? ⟨gA, i * 2, none⟩ = some (.int .i64 (spP (P.getD i (0, 0)).1).1) ∧ W.cell? ⟨gA, i * 2 + 1, none⟩ = some (.int .i64 (spP (P.getD i (0, 0)).1).2)) := fun W hW i hi => by
    have h1 := flat_cellsP h.a (by simp) i hi
    rw [map_at P (fun p => p.1) i hi] at h1
    exact ⟨bcell hW lA h1.1, bcell hW lA h1.2⟩
  have HCB : Hid (∀ W, Below w.heap.size w W → ∀ i, i < P.length → W.cell? ⟨gB, i * 2, none⟩ = some (.int .i64 (spP (P.getD i (0, 0)).2).1) ∧ W.cell? ⟨gB, i * 2 + 1, none⟩ = some (.int .i64 (spP (P.getD i (0, 0)).2).2)) := fun W hW i hi => by
    have h1 := flat_cellsP h.b (by simp) i hi
    rw [map_at P (fun p => p.2) i hi] at h1
    exact ⟨bcell hW lB h1.1, bcell hW lB h1.2⟩
  have HM1 : Hid (hasX P s) := hm1
  have HM2 : Hid (mt P s < 4 → hasX P (xr (mt P s)) ∧ 4 ≤ mt P (xr (mt P s))) := hm2
  rw [spV_P s]
  obtain ⟨n, hN⟩ : ∃ n, P.length = n := ⟨_, rfl⟩
  have HN : Hid (P.length = n) := hN
  rw [hN] at hn HCA HCB ⊢
  obtain ⟨Y, hY⟩ : ∃ Y, Y = (((w.alloc (.cells #[.slice (some ⟨gA, 0, none⟩) n cA, .slice (some ⟨gB, 0, none⟩) n cB] 129)).alloc (.cells #[.int .i64 (spP s).1, .int .i64 (spP s).2] 120)).alloc (.cells #[.int .i64 0, .int .i64 0] 120)).alloc (.cells #[.int .i64 (spP s).1, .int .i64 (spP s).2] 120) := ⟨_, rfl⟩
  have HY : Hid (Y = (((w.alloc (.cells #[.slice (some ⟨gA, 0, none⟩) n cA, .slice (some ⟨gB, 0, none⟩) n cB] 129)).alloc (.cells #[.int .i64 (spP s).1, .int .i64 (spP s).2] 120)).alloc (.cells #[.int .i64 0, .int .i64 0] 120)).alloc (.cells #[.int .i64 (spP s).1, .int .i64 (spP s).2] 120)) := hY
  have hsY : Y.heap.size = w.heap.size + 4 := by rw [hY]; simp
  have hBY : Below w.heap.size w Y := by rw [hY]; exact ((((Below.refl _ _).alloc (Nat.le_refl _) _).alloc (by simp) _).alloc (by simp only [sz_alloc]; omega) _).alloc (by simp only [sz_alloc]; omega) _
  have t2 : Y.heap[w.heap.size]? = some (.cells #[.slice (some ⟨gA, 0, none⟩) n cA, .slice (some ⟨gB, 0, none⟩) n cB] 129 (0, 0)) := by
    rw [hY, box_low _ _ (by simp only [sz_alloc]; omega), box_low _ _ (by simp only [sz_alloc]; omega), box_low _ _ (by simp)]; exact box_at _ _
  have t3 : Y.heap[w.heap.size + 1]? = some (.cells #[.int .i64 (spP s).1, .int .i64 (spP s).2] 120 (0, 0)) := by
    rw [hY, box_low _ _ (by simp only [sz_alloc]; omega), box_low _ _ (by simp)]
    have := box_at (w.alloc (.cells #[.slice (some ⟨gA, 0, none⟩) n cA, .slice (some ⟨gB, 0, none⟩) n cB] 129)) (.cells #[.int .i64 (spP s).1, .int .i64 (spP s).2] 120)
    simpa using this
  have t4 : Y.heap[w.heap.size + 1 + 1]? = some (.cells #[.int .i64 0, .int .i64 0] 120 (0, 0)) := by
    rw [hY, box_low _ _ (by simp)]
    have := box_at ((w.alloc (.cells #[.slice (some ⟨gA, 0, none⟩) n cA, .slice (some ⟨gB, 0, none⟩) n cB] 129)).alloc (.cells #[.int .i64 (spP s).1, .int .i64 (spP s).2] 120)) (.cells #[.int .i64 0, .int .i64 0] 120)
    simpa using this
  have t5 : Y.heap[w.heap.size + 1 + 1 + 1]? = some (.cells #[.int .i64 (spP s).1, .int .i64 (spP s).2] 120 (0, 0)) := by
    have := box_at (((w.alloc (.cells #[.slice (some ⟨gA, 0, none⟩) n cA, .slice (some ⟨gB, 0, none⟩) n cB] 129)).alloc (.cells #[.int .i64 (spP s).1, .int .i64 (spP s).2] 120)).alloc (.cells #[.int .i64 0, .int .i64 0] 120)) (.cells #[.int .i64 (spP s).1, .int .i64 (spP s).2] 120)
    rw [hY]
    simpa using this
  -- all that a round reads
  have HRD : Hid (∀ (W : World) (x : Nat), Y.grownBy W (some (w.heap.size + 1 + 1 + 1)) → W.heap[w.heap.size + 1 + 1 + 1]? = some (.cells #[.int .i64 (spP x).1, .int .i64 (spP x).2] 120 (0, 0)) → Below w.heap.size w W ∧ W.cell? ⟨w.heap.size, 0, none⟩ = some (.slice (some ⟨gA, 0, none⟩) n cA) ∧ W.cell? ⟨w.heap.size, 1, none⟩ = some (.slice (some ⟨gB, 0, none⟩) n cB) ∧ W.cell? ⟨w.heap.size + 1, 0, none⟩ = some (.int .i64 (spP s).1) ∧ W.cell? ⟨w.heap.size + 1, 1, none⟩ = some (.int .i64 (spP s).2) ∧ W.cell? ⟨w.heap.size + 1 + 1, 0, none⟩ = some (.int .i64 0) ∧ W.cell? ⟨w.heap.size + 1 + 1, 1, none⟩ = some (.int .i64 0) ∧ W.cell? ⟨w.heap.size + 1 + 1 + 1, 0, none⟩ = some (.int .i64 (spP x).1) ∧ W.cell? ⟨w.heap.size + 1 + 1 + 1, 1, none⟩ = some (.int .i64 (spP x).2) ∧ W.frozen? ⟨w.heap.size + 1 + 1, 0, none⟩ = false ∧ W.frozen? ⟨w.heap.size + 1 + 1, 1, none⟩ = false ∧ W.frozen? ⟨w.heap.size + 1 + 1 + 1, 0, none⟩ = false ∧ W.frozen? ⟨w.heap.size + 1 + 1 + 1, 1, none⟩ = false ∧ w.heap.size + 4 ≤ W.heap.size) := fun W x hW h5 => by
    have q2 := (hW.block w.heap.size (by omega) (fun e => by have : w.heap.size = w.heap.size + 1 + 1 + 1 := Option.some.inj e; omega)).trans t2
    have q3 := (hW.block (w.heap.size + 1) (by omega) (fun e => by have : w.heap.size + 1 = w.heap.size + 1 + 1 + 1 := Option.some.inj e; omega)).trans t3
    have q4 := (hW.block (w.heap.size + 1 + 1) (by omega) (fun e => by have : w.heap.size + 1 + 1 = w.heap.size + 1 + 1 + 1 := Option.some.inj e; omega)).trans t4
    have hsz := hW.size
    exact ⟨hBY.grown hW (by omega) (fun q hq => by have := Option.some.inj hq; omega), block_cell q2 rfl, block_cell q2 rfl, block_cell q3 rfl, block_cell q3 rfl, block_cell q4 rfl, block_cell q4 rfl, block_cell h5 rfl, block_cell h5 rfl, froz q4, froz q4, froz h5, froz h5, by omega⟩
  have HR4 : Hid (∀ (W : World) (y : Nat), Y.grownBy W (some (w.heap.size + 1 + 1 + 1)) → ((W.setCell ⟨w.heap.size + 1 + 1, 0, none⟩ (.int .i64 (spP y).1)).setCell ⟨w.heap.size + 1 + 1, 1, none⟩ (.int .i64 (spP y).2)).heap[w.heap.size + 1 + 1]? = some (.cells #[.int .i64 (spP y).1, .int .i64 (spP y).2] 120 (0, 0)) ∧ Below w.heap.size w ((W.setCell ⟨w.heap.size + 1 + 1, 0, none⟩ (.int .i64 (spP y).1)).setCell ⟨w.heap.size + 1 + 1, 1, none⟩ (.int .i64 (spP y).2))) := fun W y hW => by
    have q4 := (hW.block (w.heap.size + 1 + 1) (by omega) (fun e => by have : w.heap.size + 1 + 1 = w.heap.size + 1 + 1 + 1 := Option.some.inj e; omega)).trans t4
    have hsz := hW.size
    exact ⟨by rw [set_block (set_block q4)]; rfl, (hBY.grown hW (by omega) (fun q hq => by have := Option.some.inj hq; omega)).grown (grown_two (set_grown _ (w.heap.size + 1 + 1) _ _) (set_grown _ _ _ _)) (by omega) (fun q hq => by have := Option.some.inj hq; omega)⟩
  have H0 : Hid (Y.grownBy Y (some (w.heap.size + 1 + 1 + 1)) ∧ Y.heap[w.heap.size + 1 + 1 + 1]? = some (.cells #[.int .i64 (spP s).1, .int .i64 (spP s).2] 120 (0, 0))) := ⟨World.grownBy.refl _ _, t5⟩
  obtain ⟨R, hR⟩ : ∃ R, othR P s = R := ⟨_, rfl⟩
  have HR : Hid (othR P s = R) := hR
  have HMT : Hid (∀ x, hasX P x → ∃ i, i < n ∧ (∀ j, j < i → (P.getD j (0, 0)).1 ≠ x ∧ (P.getD j (0, 0)).2 ≠ x) ∧ (((P.getD i (0, 0)).1 = x ∧ mt P x = (P.getD i (0, 0)).2) ∨ ((P.getD i (0, 0)).1 ≠ x ∧ (P.getD i (0, 0)).2 = x ∧ mt P x = (P.getD i (0, 0)).1))) := fun x hx => by
    have := mt_first P x hx
    rw [hN] at this
    exact this
  have HBB : Hid (∀ i, i < n → (P.getD i (0, 0)).1 < 100 ∧ (P.getD i (0, 0)).2 < 100) := (by rw [← hN]; exact hb : ∀ i, i < n → (P.getD i (0, 0)).1 < 100 ∧ (P.getD i (0, 0)).2 < 100)
  rw [hR, spV_P R]
  clear hY hsY hBY t2 t3 t4 t5 h hN hR hm1 hm2 hb
  have HSN : Hid (((-1 : Int) == (spP s).1) = false) := (by unfold spP; simp; omega : ((-1 : Int) == (spP s).1) = false)
  generalize (spP s).1 = S1 at HY HRD HSN ⊢
  generalize (spP s).2 = S2 at HY HRD ⊢
  go_enter Try.func143, Try.ntmps143
  go_wp2
  rw [← HY.out]
  go_loopw [6] (fun _ wr => ∃ x : Nat, Hid (x < 100 ∧ hasX P x ∧ (4 ≤ mt P x → mt P x = R) ∧ (mt P x < 4 → 4 ≤ x ∧ hasX P (xr (mt P x)) ∧ 4 ≤ mt P (xr (mt P x)) ∧ mt P (xr (mt P x)) = R)) ∧ Hid (Y.grownBy wr (some (w.heap.size + 1 + 1 + 1)) ∧ wr.heap[w.heap.size + 1 + 1 + 1]? = some (.cells #[.int .i64 (spP x).1, .int .i64 (spP x).2] 120 (0, 0)))) (fun _ wr => phM (w.heap.size + 1 + 1 + 1) wr)
  case atStart =>
    refine ⟨s, (⟨hs2, HM1.out, fun h4 => ?_, fun h4 => ⟨hs, (HM2.out h4).1, (HM2.out h4).2, ?_⟩⟩ : s < 100 ∧ hasX P s ∧ (4 ≤ mt P s → mt P s = R) ∧ (mt P s < 4 → 4 ≤ s ∧ hasX P (xr (mt P s)) ∧ 4 ≤ mt P (xr (mt P s)) ∧ mt P (xr (mt P s)) = R)), H0.out⟩
    · have := HR.out
      unfold othR at this
      rwa [if_pos h4] at this
    · have := HR.out
      unfold othR at this
      rwa [if_neg (by omega)] at this
  case round =>
    clear H0
    rename World => W1
    obtain ⟨x, hi, hst⟩ := hrel
    have HS1 : Hid (Y.grownBy W1 (some (w.heap.size + 1 + 1 + 1)) ∧ W1.heap[w.heap.size + 1 + 1 + 1]? = some (.cells #[.int .i64 (spP x).1, .int .i64 (spP x).2] 120 (0, 0))) := hst.out
    obtain ⟨i0, hi0, hfst, hcase⟩ := HMT.out x hi.out.2.1
    rcases hcase with ⟨he, hmt⟩ | ⟨hne, he, hmt⟩
    · have HMY : Hid (mt P x = (P.getD i0 (0, 0)).2) := hmt
      obtain ⟨y, hy⟩ : ∃ y, (P.getD i0 (0, 0)).2 = y := ⟨_, rfl⟩
      rw [hy] at HMY
      have HY0 : Hid ((P.getD i0 (0, 0)).2 = y) := hy
      have HP0 : Hid ((P.getD i0 (0, 0)).1 = x) := he

      have hyb : y < 100 := by rw [← hy]; exact (HBB.out i0 hi0).2
      clear hmt hy he
      go_wp2
      go_loopw [6] (fun v6 wr => ∃ i : Nat, i ≤ i0 ∧ v6 = .int .i64 (i : Nat) ∧ Hid (Y.grownBy wr (some (w.heap.size + 1 + 1 + 1)) ∧ wr.heap[w.heap.size + 1 + 1 + 1]? = some (.cells #[.int .i64 (spP x).1, .int .i64 (spP x).2] 120 (0, 0)))) (fun v6 _ => n - (intOf v6).toNat)
      case atStart => exact ⟨0, Nat.zero_le _, rfl, hst.out⟩
      case round =>
        clear hst
        rename World => W2
        obtain ⟨i, hii, rfl, hst⟩ := hrel
        obtain ⟨hbl, b0, b1, s0, s1, r0, r1, a0, a1, z0, z1, z2, z3, hsz⟩ := HRD.out W2 x hst.out.1 hst.out.2
        have hin : i < n := by omega
        have hinI : (i : Int) < (n : Int) := by omega
        obtain ⟨u0, u1⟩ := HCA.out W2 hbl i hin
        obtain ⟨w0, w1⟩ := HCB.out W2 hbl i hin
        have HDR : Hid (∀ nq, Y.grownBy (W2.drewN nq) (some (w.heap.size + 1 + 1 + 1)) ∧ (W2.drewN nq).heap[w.heap.size + 1 + 1 + 1]? = some (.cells #[.int .i64 (spP x).1, .int .i64 (spP x).2] 120 (0, 0))) := fun nq => ⟨grown_two hst.out.1 (drewN_grown2 _ _ _), hst.out.2⟩
        have hl1 : w.heap.size < W2.heap.size := by omega
        have hl2 : w.heap.size + 1 < W2.heap.size := by omega
        have hl3 : w.heap.size + 1 + 1 < W2.heap.size := by omega
        have hl4 : w.heap.size + 1 + 1 + 1 < W2.heap.size := by omega
        have hlA : gA < W2.heap.size := by omega
        have hlB : gB < W2.heap.size := by omega
        by_cases hil : i < i0
        · obtain ⟨n1, n2⟩ := hfst i hil
          have h1 := spP_ne n1
          have h2 := spP_ne n2
          clear hst hbl
          generalize (spP (P.getD i (0, 0)).1).1 = A1 at u0 h1
          generalize (spP (P.getD i (0, 0)).1).2 = A2 at u1 h1
          generalize (spP (P.getD i (0, 0)).2).1 = B1 at w0 h2
          generalize (spP (P.getD i (0, 0)).2).2 = B2 at w1 h2
          obtain ⟨x1, hx1⟩ : ∃ x1, (spP x).1 = x1 := ⟨_, rfl⟩
          obtain ⟨x2, hx2⟩ : ∃ x2, (spP x).2 = x2 := ⟨_, rfl⟩
          rw [hx1] at a0 h1 h2
          rw [hx2] at a1 h1 h2
          clear hx1 hx2
          rcases h1 with h1 | ⟨rfl, h1⟩ <;> rcases h2 with h2 | ⟨rfl, h2⟩ <;>
          · go_wp2
            go_quiet (fail)
            go_wp2
            go_quiet (fail)
            go_wp2
            go_roundw
            case rel => exact ⟨i + 1, by omega, by go_num, HDR.out _⟩
            case measure => simp only [intOf]; omega
        · obtain rfl : i0 = i := by omega
          rw [HP0.out] at u0 u1
          rw [HY0.out] at w0 w1
          go_wp2
          go_quiet (fail)
          have HV : Hid (Y.grownBy (W2.drewN nq) (some (w.heap.size + 1 + 1 + 1)) ∧ (W2.drewN nq).heap[w.heap.size + 1 + 1 + 1]? = some (.cells #[.int .i64 (spP x).1, .int .i64 (spP x).2] 120 (0, 0))) := HDR.out nq
          clear hst HDR
          clear b0 b1 s0 s1 r0 r1 a0 a1 z0 z1 z2 z3 hsz hbl u0 u1 w0 w1 hl1 hl2 hl3 hl4 hlA hlB
          generalize W2.drewN nq = V at HV ⊢
          obtain ⟨hbl, b0, b1, s0, s1, r0, r1, a0, a1, z0, z1, z2, z3, hsz⟩ := HRD.out V x HV.out.1 HV.out.2
          obtain ⟨u0, u1⟩ := HCA.out V hbl i0 hi0
          obtain ⟨w0, w1⟩ := HCB.out V hbl i0 hi0
          have hl1 : w.heap.size < V.heap.size := by omega
          have hl2 : w.heap.size + 1 < V.heap.size := by omega
          have hl3 : w.heap.size + 1 + 1 < V.heap.size := by omega
          have hl4 : w.heap.size + 1 + 1 + 1 < V.heap.size := by omega
          have hlA : gA < V.heap.size := by omega
          have hlB : gB < V.heap.size := by omega
          rw [HP0.out] at u0 u1
          rw [HY0.out] at w0 w1
          obtain ⟨Z, hZ⟩ : ∃ Z, Z = (V.setCell ⟨w.heap.size + 1 + 1 + 1, 0, none⟩ (.int .i64 (spP y).1)).setCell ⟨w.heap.size + 1 + 1 + 1, 1, none⟩ (.int .i64 (spP y).2) := ⟨_, rfl⟩
          have HZ : Hid (Y.grownBy Z (some (w.heap.size + 1 + 1 + 1)) ∧ Z.heap[w.heap.size + 1 + 1 + 1]? = some (.cells #[.int .i64 (spP y).1, .int .i64 (spP y).2] 120 (0, 0))) := (by rw [hZ]; exact ⟨grown_two HV.out.1 (grown_two (set_grown _ _ _ _) (set_grown _ _ _ _)), by rw [set_block (set_block HV.out.2)]; rfl⟩)
          have HZE : Hid (Z = (V.setCell ⟨w.heap.size + 1 + 1 + 1, 0, none⟩ (.int .i64 (spP y).1)).setCell ⟨w.heap.size + 1 + 1 + 1, 1, none⟩ (.int .i64 (spP y).2)) := hZ
          clear hZ
          go_upto_region 9 with (fail)
          rw [← HZE.out]
          clear b0 b1 s0 s1 r0 r1 a0 a1 z0 z1 z2 z3 hsz hbl u0 u1 w0 w1 hl1 hl2 hl3 hl4 hlA hlB
          obtain ⟨hbl, b0, b1, s0, s1, r0, r1, a0, a1, z0, z1, z2, z3, hsz⟩ := HRD.out Z y HZ.out.1 HZ.out.2
          have hl1 : w.heap.size < Z.heap.size := by omega
          have hl2 : w.heap.size + 1 < Z.heap.size := by omega
          have hl3 : w.heap.size + 1 + 1 < Z.heap.size := by omega
          have hl4 : w.heap.size + 1 + 1 + 1 < Z.heap.size := by omega
          have hlA : gA < Z.heap.size := by omega
          have hlB : gB < Z.heap.size := by omega
          by_cases hy4 : 4 ≤ y
          · have HYR : Hid (y = R) := (HMY.out.symm.trans (hi.out.2.2.1 (by rw [HMY.out]; exact hy4)) : y = R)
            have hge : 0 ≤ (spP y).1 := by unfold spP; simp; omega
            have HE : Hid (((Z.setCell ⟨w.heap.size + 1 + 1, 0, none⟩ (.int .i64 (spP y).1)).setCell ⟨w.heap.size + 1 + 1, 1, none⟩ (.int .i64 (spP y).2)).heap[w.heap.size + 1 + 1]? = some (.cells #[.int .i64 (spP y).1, .int .i64 (spP y).2] 120 (0, 0)) ∧ Below w.heap.size w ((Z.setCell ⟨w.heap.size + 1 + 1, 0, none⟩ (.int .i64 (spP y).1)).setCell ⟨w.heap.size + 1 + 1, 1, none⟩ (.int .i64 (spP y).2))) := HR4.out Z y HZ.out.1
            have HYE : Hid (spP y = spP R) := (by rw [HYR.out] : spP y = spP R)
            generalize spP y = yz at a0 a1 hge HE HYE
            go_wp2
            have q0 : ((Z.setCell ⟨w.heap.size + 1 + 1, 0, none⟩ (.int .i64 yz.1)).setCell ⟨w.heap.size + 1 + 1, 1, none⟩ (.int .i64 yz.2)).cell? ⟨w.heap.size + 1 + 1, 0, none⟩ = some (.int .i64 yz.1) := block_cell HE.out.1 rfl
            have q1 : ((Z.setCell ⟨w.heap.size + 1 + 1, 0, none⟩ (.int .i64 yz.1)).setCell ⟨w.heap.size + 1 + 1, 1, none⟩ (.int .i64 yz.2)).cell? ⟨w.heap.size + 1 + 1, 1, none⟩ = some (.int .i64 yz.2) := block_cell HE.out.1 rfl
            exact bodyPost_ret (v := .agg #[.int .i64 yz.1, .int .i64 yz.2]) (by simp [results, Try.results143, go_sem, q0, q1]) rfl ⟨by rw [HYE.out], HE.out.2⟩
          · obtain ⟨k1, k2, k3, k4⟩ := hi.out.2.2.2 (by rw [HMY.out]; omega)
            rw [HMY.out] at k2 k3 k4
            have hxr : xr y < 4 := by unfold xr; (repeat' split) <;> omega
            have HNX : Hid (xr y < 100 ∧ hasX P (xr y) ∧ (4 ≤ mt P (xr y) → mt P (xr y) = R) ∧ (mt P (xr y) < 4 → 4 ≤ xr y ∧ hasX P (xr (mt P (xr y))) ∧ 4 ≤ mt P (xr (mt P (xr y))) ∧ mt P (xr (mt P (xr y))) = R)) := (⟨by omega, k2, fun _ => k4, fun h => by omega⟩ : xr y < 100 ∧ hasX P (xr y) ∧ (4 ≤ mt P (xr y) → mt P (xr y) = R) ∧ (mt P (xr y) < 4 → 4 ≤ xr y ∧ hasX P (xr (mt P (xr y))) ∧ 4 ≤ mt P (xr (mt P (xr y))) ∧ mt P (xr (mt P (xr y))) = R))
            have ey1 : (spP y).1 = -1 := by unfold spP; simp; omega
            have ey2 : (spP y).2 = (y : Int) := by unfold spP; simp; omega
            have ex1 : (spP (xr y)).1 = -1 := by unfold spP; simp; omega
            have ex2 : (spP (xr y)).2 = ((xr y : Nat) : Int) := by unfold spP; simp; omega
            have hs1n : ((-1 : Int) == S1) = false := HSN.out
            have hxo := xor_bits y (by omega)
            rw [ey1] at a0
            rw [ey2] at a1
            have HZ2 : Hid (Y.grownBy (Z.setCell ⟨w.heap.size + 1 + 1 + 1, 1, none⟩ (.int .i64 (xr y : Nat))) (some (w.heap.size + 1 + 1 + 1)) ∧ (Z.setCell ⟨w.heap.size + 1 + 1 + 1, 1, none⟩ (.int .i64 (xr y : Nat))).heap[w.heap.size + 1 + 1 + 1]? = some (.cells #[.int .i64 (spP (xr y)).1, .int .i64 (spP (xr y)).2] 120 (0, 0))) := (by
              refine ⟨grown_two HZ.out.1 (set_grown _ _ _ _), ?_⟩
              rw [set_block HZ.out.2, ex1, ex2, ey1]
              rfl)
            have HMS : Hid (phM (w.heap.size + 1 + 1 + 1) W1 = 1) := (by rw [phM_at HS1.out.2, if_pos k1] : phM (w.heap.size + 1 + 1 + 1) W1 = 1)
            have HMZ : Hid (phM (w.heap.size + 1 + 1 + 1) (Z.setCell ⟨w.heap.size + 1 + 1 + 1, 1, none⟩ (.int .i64 (xr y : Nat))) = 0) := (by rw [phM_at HZ2.out.2, if_neg (by omega)] : phM (w.heap.size + 1 + 1 + 1) (Z.setCell ⟨w.heap.size + 1 + 1 + 1, 1, none⟩ (.int .i64 (xr y : Nat))) = 0)
            clear ey1 ey2 ex1 ex2
            generalize xr y = q at HNX HZ2 HMZ hxo hxr
            go_wp2
            go_roundw
            case rel => exact ⟨q, HNX.out, HZ2.out⟩
            case measure =>
              show phM (w.heap.size + 1 + 1 + 1) _ < phM (w.heap.size + 1 + 1 + 1) W1
              rw [HMS.out, HMZ.out]
              omega
    · have HMY : Hid (mt P x = (P.getD i0 (0, 0)).1) := hmt
      obtain ⟨y, hy⟩ : ∃ y, (P.getD i0 (0, 0)).1 = y := ⟨_, rfl⟩
      rw [hy] at HMY
      have HY0 : Hid ((P.getD i0 (0, 0)).1 = y) := hy
      have HP0 : Hid ((P.getD i0 (0, 0)).2 = x) := he
      have HQ0 : Hid ((P.getD i0 (0, 0)).1 ≠ x) := hne
      have hyb : y < 100 := by rw [← hy]; exact (HBB.out i0 hi0).1
      clear hmt hy he
      go_wp2
      go_loopw [6] (fun v6 wr => ∃ i : Nat, i ≤ i0 ∧ v6 = .int .i64 (i : Nat) ∧ Hid (Y.grownBy wr (some (w.heap.size + 1 + 1 + 1)) ∧ wr.heap[w.heap.size + 1 + 1 + 1]? = some (.cells #[.int .i64 (spP x).1, .int .i64 (spP x).2] 120 (0, 0)))) (fun v6 _ => n - (intOf v6).toNat)
      case atStart => exact ⟨0, Nat.zero_le _, rfl, hst.out⟩
      case round =>
        clear hst
        rename World => W2
        obtain ⟨i, hii, rfl, hst⟩ := hrel
        obtain ⟨hbl, b0, b1, s0, s1, r0, r1, a0, a1, z0, z1, z2, z3, hsz⟩ := HRD.out W2 x hst.out.1 hst.out.2
        have hin : i < n := by omega
        have hinI : (i : Int) < (n : Int) := by omega
        obtain ⟨u0, u1⟩ := HCA.out W2 hbl i hin
        obtain ⟨w0, w1⟩ := HCB.out W2 hbl i hin
        have HDR : Hid (∀ nq, Y.grownBy (W2.drewN nq) (some (w.heap.size + 1 + 1 + 1)) ∧ (W2.drewN nq).heap[w.heap.size + 1 + 1 + 1]? = some (.cells #[.int .i64 (spP x).1, .int .i64 (spP x).2] 120 (0, 0))) := fun nq => ⟨grown_two hst.out.1 (drewN_grown2 _ _ _), hst.out.2⟩
        have hl1 : w.heap.size < W2.heap.size := by omega
        have hl2 : w.heap.size + 1 < W2.heap.size := by omega
        have hl3 : w.heap.size + 1 + 1 < W2.heap.size := by omega
        have hl4 : w.heap.size + 1 + 1 + 1 < W2.heap.size := by omega
        have hlA : gA < W2.heap.size := by omega
        have hlB : gB < W2.heap.size := by omega
        by_cases hil : i < i0
        · obtain ⟨n1, n2⟩ := hfst i hil
          have h1 := spP_ne n1
          have h2 := spP_ne n2
          clear hst hbl
          generalize (spP (P.getD i (0, 0)).1).1 = A1 at u0 h1
          generalize (spP (P.getD i (0, 0)).1).2 = A2 at u1 h1
          generalize (spP (P.getD i (0, 0)).2).1 = B1 at w0 h2
          generalize (spP (P.getD i (0, 0)).2).2 = B2 at w1 h2
          obtain ⟨x1, hx1⟩ : ∃ x1, (spP x).1 = x1 := ⟨_, rfl⟩
          obtain ⟨x2, hx2⟩ : ∃ x2, (spP x).2 = x2 := ⟨_, rfl⟩
          rw [hx1] at a0 h1 h2
          rw [hx2] at a1 h1 h2
          clear hx1 hx2
          rcases h1 with h1 | ⟨rfl, h1⟩ <;> rcases h2 with h2 | ⟨rfl, h2⟩ <;>
          · go_wp2
            go_quiet (fail)
            go_wp2
            go_quiet (fail)
            go_wp2
            go_roundw
            case rel => exact ⟨i + 1, by omega, by go_num, HDR.out _⟩
            case measure => simp only [intOf]; omega
        · obtain rfl : i0 = i := by omega
          have h1 := spP_ne HQ0.out
          rw [HP0.out] at w0 w1
          rw [HY0.out] at u0 u1 h1
          obtain ⟨xx, hxx⟩ : ∃ xx, spP x = xx := ⟨_, rfl⟩
          obtain ⟨yy, hyy⟩ : ∃ yy, spP y = yy := ⟨_, rfl⟩
          have HXX : Hid (spP x = xx) := hxx
          have HYY : Hid (spP y = yy) := hyy
          rw [hxx] at h1 a0 a1 w0 w1
          rw [hyy] at h1 u0 u1
          obtain ⟨x1, x2⟩ := xx
          obtain ⟨y1, y2⟩ := yy
          simp only at h1 a0 a1 w0 w1 u0 u1
          clear hxx hyy
          rcases h1 with h1 | ⟨h0, h1⟩
          · go_wp2
            go_quiet (fail)
            revert nq
            intro mq
            have HDR2 : Hid (∀ k, Y.grownBy ((W2.drewN mq).drewN k) (some (w.heap.size + 1 + 1 + 1)) ∧ ((W2.drewN mq).drewN k).heap[w.heap.size + 1 + 1 + 1]? = some (.cells #[.int .i64 (spP x).1, .int .i64 (spP x).2] 120 (0, 0))) := fun k => ⟨grown_two (HDR.out mq).1 (drewN_grown2 _ _ _), by rw [(drewN_grown2 (W2.drewN mq) k none).block _ (by have := (drewN_grown2 W2 mq none).size; omega) (by simp)]; exact (HDR.out mq).2⟩
            go_wp2
            go_quiet (fail)
            have HV : Hid (Y.grownBy ((W2.drewN mq).drewN nq) (some (w.heap.size + 1 + 1 + 1)) ∧ ((W2.drewN mq).drewN nq).heap[w.heap.size + 1 + 1 + 1]? = some (.cells #[.int .i64 (spP x).1, .int .i64 (spP x).2] 120 (0, 0))) := HDR2.out nq
            clear hst HDR HDR2
            clear b0 b1 s0 s1 r0 r1 a0 a1 z0 z1 z2 z3 hsz hbl u0 u1 w0 w1 hl1 hl2 hl3 hl4 hlA hlB
            generalize (W2.drewN mq).drewN nq = V at HV ⊢
            obtain ⟨hbl, b0, b1, s0, s1, r0, r1, a0, a1, z0, z1, z2, z3, hsz⟩ := HRD.out V x HV.out.1 HV.out.2
            obtain ⟨u0, u1⟩ := HCA.out V hbl i0 hi0
            obtain ⟨w0, w1⟩ := HCB.out V hbl i0 hi0
            have hl1 : w.heap.size < V.heap.size := by omega
            have hl2 : w.heap.size + 1 < V.heap.size := by omega
            have hl3 : w.heap.size + 1 + 1 < V.heap.size := by omega
            have hl4 : w.heap.size + 1 + 1 + 1 < V.heap.size := by omega
            have hlA : gA < V.heap.size := by omega
            have hlB : gB < V.heap.size := by omega
            rw [HP0.out, HXX.out] at w0 w1
            rw [HY0.out, HYY.out] at u0 u1
            rw [HXX.out] at a0 a1
            simp only at w0 w1 u0 u1 a0 a1
            obtain ⟨Z, hZ⟩ : ∃ Z, Z = (V.setCell ⟨w.heap.size + 1 + 1 + 1, 0, none⟩ (.int .i64 y1)).setCell ⟨w.heap.size + 1 + 1 + 1, 1, none⟩ (.int .i64 y2) := ⟨_, rfl⟩
            have HZ : Hid (Y.grownBy Z (some (w.heap.size + 1 + 1 + 1)) ∧ Z.heap[w.heap.size + 1 + 1 + 1]? = some (.cells #[.int .i64 (spP y).1, .int .i64 (spP y).2] 120 (0, 0))) := (by rw [hZ, HYY.out]; exact ⟨grown_two HV.out.1 (grown_two (set_grown _ _ _ _) (set_grown _ _ _ _)), by rw [set_block (set_block HV.out.2)]; rfl⟩)
            have HZE : Hid (Z = (V.setCell ⟨w.heap.size + 1 + 1 + 1, 0, none⟩ (.int .i64 y1)).setCell ⟨w.heap.size + 1 + 1 + 1, 1, none⟩ (.int .i64 y2)) := hZ
            clear hZ
            go_upto_region 9 with (fail)
            rw [← HZE.out]
            clear b0 b1 s0 s1 r0 r1 a0 a1 z0 z1 z2 z3 hsz hbl u0 u1 w0 w1 hl1 hl2 hl3 hl4 hlA hlB
            obtain ⟨hbl, b0, b1, s0, s1, r0, r1, a0, a1, z0, z1, z2, z3, hsz⟩ := HRD.out Z y HZ.out.1 HZ.out.2
            clear HZE
            have hl1 : w.heap.size < Z.heap.size := by omega
            have hl2 : w.heap.size + 1 < Z.heap.size := by omega
            have hl3 : w.heap.size + 1 + 1 < Z.heap.size := by omega
            have hl4 : w.heap.size + 1 + 1 + 1 < Z.heap.size := by omega
            have hlA : gA < Z.heap.size := by omega
            have hlB : gB < Z.heap.size := by omega
            by_cases hy4 : 4 ≤ y
            · have HYR : Hid (y = R) := (HMY.out.symm.trans (hi.out.2.2.1 (by rw [HMY.out]; exact hy4)) : y = R)
              have hge : 0 ≤ (spP y).1 := by unfold spP; simp; omega
              have HE : Hid (((Z.setCell ⟨w.heap.size + 1 + 1, 0, none⟩ (.int .i64 (spP y).1)).setCell ⟨w.heap.size + 1 + 1, 1, none⟩ (.int .i64 (spP y).2)).heap[w.heap.size + 1 + 1]? = some (.cells #[.int .i64 (spP y).1, .int .i64 (spP y).2] 120 (0, 0)) ∧ Below w.heap.size w ((Z.setCell ⟨w.heap.size + 1 + 1, 0, none⟩ (.int .i64 (spP y).1)).setCell ⟨w.heap.size + 1 + 1, 1, none⟩ (.int .i64 (spP y).2))) := HR4.out Z y HZ.out.1
              have HYE : Hid (spP y = spP R) := (by rw [HYR.out] : spP y = spP R)
              generalize spP y = yz at a0 a1 hge HE HYE
              go_wp2
              have q0 : ((Z.setCell ⟨w.heap.size + 1 + 1, 0, none⟩ (.int .i64 yz.1)).setCell ⟨w.heap.size + 1 + 1, 1, none⟩ (.int .i64 yz.2)).cell? ⟨w.heap.size + 1 + 1, 0, none⟩ = some (.int .i64 yz.1) := block_cell HE.out.1 rfl
              have q1 : ((Z.setCell ⟨w.heap.size + 1 + 1, 0, none⟩ (.int .i64 yz.1)).setCell ⟨w.heap.size + 1 + 1, 1, none⟩ (.int .i64 yz.2)).cell? ⟨w.heap.size + 1 + 1, 1, none⟩ = some (.int .i64 yz.2) := block_cell HE.out.1 rfl
              exact bodyPost_ret (v := .agg #[.int .i64 yz.1, .int .i64 yz.2]) (by simp [results, Try.results143, go_sem, q0, q1]) rfl ⟨by rw [HYE.out], HE.out.2⟩
            · obtain ⟨k1, k2, k3, k4⟩ := hi.out.2.2.2 (by rw [HMY.out]; omega)
              rw [HMY.out] at k2 k3 k4
              have hxr : xr y < 4 := by unfold xr; (repeat' split) <;> omega
              have HNX : Hid (xr y < 100 ∧ hasX P (xr y) ∧ (4 ≤ mt P (xr y) → mt P (xr y) = R) ∧ (mt P (xr y) < 4 → 4 ≤ xr y ∧ hasX P (xr (mt P (xr y))) ∧ 4 ≤ mt P (xr (mt P (xr y))) ∧ mt P (xr (mt P (xr y))) = R)) := (⟨by omega, k2, fun _ => k4, fun h => by omega⟩ : xr y < 100 ∧ hasX P (xr y) ∧ (4 ≤ mt P (xr y) → mt P (xr y) = R) ∧ (mt P (xr y) < 4 → 4 ≤ xr y ∧ hasX P (xr (mt P (xr y))) ∧ 4 ≤ mt P (xr (mt P (xr y))) ∧ mt P (xr (mt P (xr y))) = R))
              have ey1 : (spP y).1 = -1 := by unfold spP; simp; omega
              have ey2 : (spP y).2 = (y : Int) := by unfold spP; simp; omega
              have ex1 : (spP (xr y)).1 = -1 := by unfold spP; simp; omega
              have ex2 : (spP (xr y)).2 = ((xr y : Nat) : Int) := by unfold spP; simp; omega
              have hs1n : ((-1 : Int) == S1) = false := HSN.out
              have hxo := xor_bits y (by omega)
              rw [ey1] at a0
              rw [ey2] at a1
              have HZ2 : Hid (Y.grownBy (Z.setCell ⟨w.heap.size + 1 + 1 + 1, 1, none⟩ (.int .i64 (xr y : Nat))) (some (w.heap.size + 1 + 1 + 1)) ∧ (Z.setCell ⟨w.heap.size + 1 + 1 + 1, 1, none⟩ (.int .i64 (xr y : Nat))).heap[w.heap.size + 1 + 1 + 1]? = some (.cells #[.int .i64 (spP (xr y)).1, .int .i64 (spP (xr y)).2] 120 (0, 0))) := (by
                refine ⟨grown_two HZ.out.1 (set_grown _ _ _ _), ?_⟩
                rw [set_block HZ.out.2, ex1, ex2, ey1]
                rfl)
              have HMS : Hid (phM (w.heap.size + 1 + 1 + 1) W1 = 1) := (by rw [phM_at HS1.out.2, if_pos k1] : phM (w.heap.size + 1 + 1 + 1) W1 = 1)
              have HMZ : Hid (phM (w.heap.size + 1 + 1 + 1) (Z.setCell ⟨w.heap.size + 1 + 1 + 1, 1, none⟩ (.int .i64 (xr y : Nat))) = 0) := (by rw [phM_at HZ2.out.2, if_neg (by omega)] : phM (w.heap.size + 1 + 1 + 1) (Z.setCell ⟨w.heap.size + 1 + 1 + 1, 1, none⟩ (.int .i64 (xr y : Nat))) = 0)
              clear ey1 ey2 ex1 ex2
              generalize xr y = q at HNX HZ2 HMZ hxo hxr
              go_wp2
              go_roundw
              case rel => exact ⟨q, HNX.out, HZ2.out⟩
              case measure =>
                show phM (w.heap.size + 1 + 1 + 1) _ < phM (w.heap.size + 1 + 1 + 1) W1
                rw [HMS.out, HMZ.out]
                omega
          · subst h0
            go_wp2
            go_quiet (fail)
            revert nq
            intro mq
            have HDR2 : Hid (∀ k, Y.grownBy ((W2.drewN mq).drewN k) (some (w.heap.size + 1 + 1 + 1)) ∧ ((W2.drewN mq).drewN k).heap[w.heap.size + 1 + 1 + 1]? = some (.cells #[.int .i64 (spP x).1, .int .i64 (spP x).2] 120 (0, 0))) := fun k => ⟨grown_two (HDR.out mq).1 (drewN_grown2 _ _ _), by rw [(drewN_grown2 (W2.drewN mq) k none).block _ (by have := (drewN_grown2 W2 mq none).size; omega) (by simp)]; exact (HDR.out mq).2⟩
            go_wp2
            go_quiet (fail)
            have HV : Hid (Y.grownBy ((W2.drewN mq).drewN nq) (some (w.heap.size + 1 + 1 + 1)) ∧ ((W2.drewN mq).drewN nq).heap[w.heap.size + 1 + 1 + 1]? = some (.cells #[.int .i64 (spP x).1, .int .i64 (spP x).2] 120 (0, 0))) := HDR2.out nq
            clear hst HDR HDR2
            clear b0 b1 s0 s1 r0 r1 a0 a1 z0 z1 z2 z3 hsz hbl u0 u1 w0 w1 hl1 hl2 hl3 hl4 hlA hlB
            generalize (W2.drewN mq).drewN nq = V at HV ⊢
            obtain ⟨hbl, b0, b1, s0, s1, r0, r1, a0, a1, z0, z1, z2, z3, hsz⟩ := HRD.out V x HV.out.1 HV.out.2
            obtain ⟨u0, u1⟩ := HCA.out V hbl i0 hi0
            obtain ⟨w0, w1⟩ := HCB.out V hbl i0 hi0
            have hl1 : w.heap.size < V.heap.size := by omega
            have hl2 : w.heap.size + 1 < V.heap.size := by omega
            have hl3 : w.heap.size + 1 + 1 < V.heap.size := by omega
            have hl4 : w.heap.size + 1 + 1 + 1 < V.heap.size := by omega
            have hlA : gA < V.heap.size := by omega
            have hlB : gB < V.heap.size := by omega
            rw [HP0.out, HXX.out] at w0 w1
            rw [HY0.out, HYY.out] at u0 u1
            rw [HXX.out] at a0 a1
            simp only at w0 w1 u0 u1 a0 a1
            obtain ⟨Z, hZ⟩ : ∃ Z, Z = (V.setCell ⟨w.heap.size + 1 + 1 + 1, 0, none⟩ (.int .i64 y1)).setCell ⟨w.heap.size + 1 + 1 + 1, 1, none⟩ (.int .i64 y2) := ⟨_, rfl⟩
            have HZ : Hid (Y.grownBy Z (some (w.heap.size + 1 + 1 + 1)) ∧ Z.heap[w.heap.size + 1 + 1 + 1]? = some (.cells #[.int .i64 (spP y).1, .int .i64 (spP y).2] 120 (0, 0))) := (by rw [hZ, HYY.out]; exact ⟨grown_two HV.out.1 (grown_two (set_grown _ _ _ _) (set_grown _ _ _ _)), by rw [set_block (set_block HV.out.2)]; rfl⟩)
            have HZE : Hid (Z = (V.setCell ⟨w.heap.size + 1 + 1 + 1, 0, none⟩ (.int .i64 y1)).setCell ⟨w.heap.size + 1 + 1 + 1, 1, none⟩ (.int .i64 y2)) := hZ
            clear hZ
            go_upto_region 9 with (fail)
            rw [← HZE.out]
            clear b0 b1 s0 s1 r0 r1 a0 a1 z0 z1 z2 z3 hsz hbl u0 u1 w0 w1 hl1 hl2 hl3 hl4 hlA hlB
            obtain ⟨hbl, b0, b1, s0, s1, r0, r1, a0, a1, z0, z1, z2, z3, hsz⟩ := HRD.out Z y HZ.out.1 HZ.out.2
            clear HZE
            have hl1 : w.heap.size < Z.heap.size := by omega
            have hl2 : w.heap.size + 1 < Z.heap.size := by omega
            have hl3 : w.heap.size + 1 + 1 < Z.heap.size := by omega
            have hl4 : w.heap.size + 1 + 1 + 1 < Z.heap.size := by omega
            have hlA : gA < Z.heap.size := by omega
            have hlB : gB < Z.heap.size := by omega
            by_cases hy4 : 4 ≤ y
            · have HYR : Hid (y = R) := (HMY.out.symm.trans (hi.out.2.2.1 (by rw [HMY.out]; exact hy4)) : y = R)
              have hge : 0 ≤ (spP y).1 := by unfold spP; simp; omega
              have HE : Hid (((Z.setCell ⟨w.heap.size + 1 + 1, 0, none⟩ (.int .i64 (spP y).1)).setCell ⟨w.heap.size + 1 + 1, 1, none⟩ (.int .i64 (spP y).2)).heap[w.heap.size + 1 + 1]? = some (.cells #[.int .i64 (spP y).1, .int .i64 (spP y).2] 120 (0, 0)) ∧ Below w.heap.size w ((Z.setCell ⟨w.heap.size + 1 + 1, 0, none⟩ (.int .i64 (spP y).1)).setCell ⟨w.heap.size + 1 + 1, 1, none⟩ (.int .i64 (spP y).2))) := HR4.out Z y HZ.out.1
              have HYE : Hid (spP y = spP R) := (by rw [HYR.out] : spP y = spP R)
              generalize spP y = yz at a0 a1 hge HE HYE
              go_wp2
              have q0 : ((Z.setCell ⟨w.heap.size + 1 + 1, 0, none⟩ (.int .i64 yz.1)).setCell ⟨w.heap.size + 1 + 1, 1, none⟩ (.int .i64 yz.2)).cell? ⟨w.heap.size + 1 + 1, 0, none⟩ = some (.int .i64 yz.1) := block_cell HE.out.1 rfl
              have q1 : ((Z.setCell ⟨w.heap.size + 1 + 1, 0, none⟩ (.int .i64 yz.1)).setCell ⟨w.heap.size + 1 + 1, 1, none⟩ (.int .i64 yz.2)).cell? ⟨w.heap.size + 1 + 1, 1, none⟩ = some (.int .i64 yz.2) := block_cell HE.out.1 rfl
              exact bodyPost_ret (v := .agg #[.int .i64 yz.1, .int .i64 yz.2]) (by simp [results, Try.results143, go_sem, q0, q1]) rfl ⟨by rw [HYE.out], HE.out.2⟩
            · obtain ⟨k1, k2, k3, k4⟩ := hi.out.2.2.2 (by rw [HMY.out]; omega)
              rw [HMY.out] at k2 k3 k4
              have hxr : xr y < 4 := by unfold xr; (repeat' split) <;> omega
              have HNX : Hid (xr y < 100 ∧ hasX P (xr y) ∧ (4 ≤ mt P (xr y) → mt P (xr y) = R) ∧ (mt P (xr y) < 4 → 4 ≤ xr y ∧ hasX P (xr (mt P (xr y))) ∧ 4 ≤ mt P (xr (mt P (xr y))) ∧ mt P (xr (mt P (xr y))) = R)) := (⟨by omega, k2, fun _ => k4, fun h => by omega⟩ : xr y < 100 ∧ hasX P (xr y) ∧ (4 ≤ mt P (xr y) → mt P (xr y) = R) ∧ (mt P (xr y) < 4 → 4 ≤ xr y ∧ hasX P (xr (mt P (xr y))) ∧ 4 ≤ mt P (xr (mt P (xr y))) ∧ mt P (xr (mt P (xr y))) = R))
              have ey1 : (spP y).1 = -1 := by unfold spP; simp; omega
              have ey2 : (spP y).2 = (y : Int) := by unfold spP; simp; omega
              have ex1 : (spP (xr y)).1 = -1 := by unfold spP; simp; omega
              have ex2 : (spP (xr y)).2 = ((xr y : Nat) : Int) := by unfold spP; simp; omega
              have hs1n : ((-1 : Int) == S1) = false := HSN.out
              have hxo := xor_bits y (by omega)
              rw [ey1] at a0
              rw [ey2] at a1
              have HZ2 : Hid (Y.grownBy (Z.setCell ⟨w.heap.size + 1 + 1 + 1, 1, none⟩ (.int .i64 (xr y : Nat))) (some (w.heap.size + 1 + 1 + 1)) ∧ (Z.setCell ⟨w.heap.size + 1 + 1 + 1, 1, none⟩ (.int .i64 (xr y : Nat))).heap[w.heap.size + 1 + 1 + 1]? = some (.cells #[.int .i64 (spP (xr y)).1, .int .i64 (spP (xr y)).2] 120 (0, 0))) := (by
                refine ⟨grown_two HZ.out.1 (set_grown _ _ _ _), ?_⟩
                rw [set_block HZ.out.2, ex1, ex2, ey1]
                rfl)
              have HMS : Hid (phM (w.heap.size + 1 + 1 + 1) W1 = 1) := (by rw [phM_at HS1.out.2, if_pos k1] : phM (w.heap.size + 1 + 1 + 1) W1 = 1)
              have HMZ : Hid (phM (w.heap.size + 1 + 1 + 1) (Z.setCell ⟨w.heap.size + 1 + 1 + 1, 1, none⟩ (.int .i64 (xr y : Nat))) = 0) := (by rw [phM_at HZ2.out.2, if_neg (by omega)] : phM (w.heap.size + 1 + 1 + 1) (Z.setCell ⟨w.heap.size + 1 + 1 + 1, 1, none⟩ (.int .i64 (xr y : Nat))) = 0)
              clear ey1 ey2 ex1 ex2
              generalize xr y = q at HNX HZ2 HMZ hxo hxr
              go_wp2
              go_roundw
              case rel => exact ⟨q, HNX.out, HZ2.out⟩
              case measure =>
                show phM (w.heap.size + 1 + 1 + 1) _ < phM (w.heap.size + 1 + 1 + 1) W1
                rw [HMS.out, HMZ.out]
                omega
end Go.Proofs.Ytphhlflcghffbaa
