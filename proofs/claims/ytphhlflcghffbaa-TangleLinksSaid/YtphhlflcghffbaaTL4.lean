/- The walk of tangle.ties.join. -/
import Derived.Test.YtphhlflcghffbaaTL3
namespace Go.Proofs.Ytphhlflcghffbaa
open Go.RowKit Go.Maps

set_option maxHeartbeats 4000000 in
set_option maxRecDepth 100000 in
theorem join_any (b m e f : Nat) (S : Nat → Prop) (T : Nat → Nat) (w : World) (h : MapT w b m S T) (he : e < 4) (hf : f < 4) (hSe : S e) (hSf : S f) (hTe : T e < 80) (hTf : T f < 80) (hm : m ≤ 800) :
    Calls Try.prog 86 #[.map (some b), .int .i64 (e : Nat), .int .i64 (f : Nat)] w fun r w' => r = .returned (.int .i64 (if T e = f then 1 else 0)) ∧ MapT w' b (m + 2) S (if T e = f then T else tieF T (T e) (T f)) ∧ w.grownBy w' (some b) := by
  have eE : spV e = .agg #[.int .i64 (-1), .int .i64 (e : Nat)] := by
    unfold spV
    rw [show e / 4 = 0 by omega, show e % 4 = e by omega]
    rfl
  have eF : spV f = .agg #[.int .i64 (-1), .int .i64 (f : Nat)] := by
    unfold spV
    rw [show f / 4 = 0 by omega, show f % 4 = f by omega]
    rfl
  obtain ⟨Y, hY⟩ : ∃ Y, Y = (w.alloc (.cells #[.int .i64 (-1), .int .i64 (e : Nat)] 147)).alloc (.cells #[.int .i64 (-1), .int .i64 (f : Nat)] 147) := ⟨_, rfl⟩
  have HY : Hid (Y = (w.alloc (.cells #[.int .i64 (-1), .int .i64 (e : Nat)] 147)).alloc (.cells #[.int .i64 (-1), .int .i64 (f : Nat)] 147)) := hY
  have HGY : Hid (w.grownBy Y (some b)) := (by rw [hY]; exact grown_two (World.grownBy_alloc _ _ _) (World.grownBy_alloc _ _ _) : w.grownBy Y (some b))
  have hMY : MapT Y b m S T := h.kept (row := none) (by rw [hY]; exact grown_two (World.grownBy_alloc _ _ _) (World.grownBy_alloc _ _ _)) (by simp)
  obtain ⟨c0, c1, c2, c3⟩ := two_boxes w (.int .i64 (-1)) (.int .i64 (e : Nat)) (.int .i64 (-1)) (.int .i64 (f : Nat)) 147
  rw [← hY] at c0 c1 c2 c3
  have hMD : ∀ n, MapT (Y.drewN n) b m S T := fun n => hMY.kept (grown_below (below_drewN (Below.refl _ _) n) none) (by simp)
  have HGD : Hid (∀ n, Y.grownBy (Y.drewN n) (some b)) := fun n => grown_below (below_drewN (Below.refl _ _) n) _
  have HMD : Hid (∀ n, MapT (Y.drewN n) b m S T) := hMD
  have hlk : ∀ n, (Instr.lookup 122 (.map (some b)) (.agg #[.int .i64 (-1), .int .i64 (e : Nat)]) false).run Try.prog (Y.drewN n) = .ok (spV (T e)) (Y.drewN n) := fun n => by rw [← eE]; exact (hMD n).look e hSe (by omega)
  have hlf : ∀ n, (Instr.lookup 122 (.map (some b)) (.agg #[.int .i64 (-1), .int .i64 (f : Nat)]) false).run Try.prog (Y.drewN n) = .ok (spV (T f)) (Y.drewN n) := fun n => by rw [← eF]; exact (hMD n).look f hSf (by omega)
  have HT : Hid (∀ W, MapT W b m S T → Calls Try.prog 138 #[.map (some b), spV (T e), spV (T f)] W fun r w' => r = .returned (.tuple #[]) ∧ MapT w' b (m + 2) (fun z => z = T f ∨ z = T e ∨ S z) (tieF T (T e) (T f)) ∧ W.grownBy w' (some b)) := fun W hW => tie_any b m S T (T e) (T f) W hW hTe hTf (by omega)
  by_cases hef : T e = f
  · rw [if_pos hef, if_pos hef]
    rw [hef, eF] at hlk
    clear hlf HT hY hMY hMD
    go_enter Try.func86, Try.ntmps86
    go_wp2
    rw [← HY.out]
    go_quiet (fail)
    go_wp2
    go_ret
    exact ⟨rfl, (HMD.out _).congr (by omega) (fun z hz => ⟨hz, rfl⟩), grown_two HGY.out (HGD.out _)⟩
  · rw [if_neg hef, if_neg hef]
    have HMF : Hid (∀ W, MapT W b (m + 2) (fun z => z = T f ∨ z = T e ∨ S z) (tieF T (T e) (T f)) → MapT W b (m + 2) S (tieF T (T e) (T f))) := fun W hW => hW.congr (Nat.le_refl _) (fun z hz => ⟨Or.inr (Or.inr hz), rfl⟩)
    obtain ⟨y0, y1, z0, z1, eTe, eTf, hne⟩ : ∃ y0 y1 z0 z1 : Int, spV (T e) = .agg #[.int .i64 y0, .int .i64 y1] ∧ spV (T f) = .agg #[.int .i64 z0, .int .i64 z1] ∧ ((y0 == -1) = false ∨ (y0 = -1 ∧ (y1 == (f : Int)) = false)) := by
      refine ⟨_, _, _, _, rfl, rfl, ?_⟩
      by_cases h4 : T e < 4
      · refine Or.inr ⟨by omega, ?_⟩
        simp
        omega
      · refine Or.inl ?_
        simp
        omega
    rw [eTe] at hlk HT
    rw [eTf] at hlf HT
    have HCS : Hid (∀ n, (Y.drewN n).cell? ⟨w.heap.size, 0, none⟩ = some (.int .i64 (-1)) ∧ (Y.drewN n).cell? ⟨w.heap.size, 1, none⟩ = some (.int .i64 (e : Nat)) ∧ (Y.drewN n).cell? ⟨w.heap.size + 1, 0, none⟩ = some (.int .i64 (-1)) ∧ (Y.drewN n).cell? ⟨w.heap.size + 1, 1, none⟩ = some (.int .i64 (f : Nat))) := fun n => by
      have hk : ∀ (W : World) (a : Addr), (W.drewN n).cell? a = W.cell? a := fun W a => by
        induction n with
        | zero => rfl
        | succ n ih => exact ih
      rw [hk, hk, hk, hk]
      exact ⟨c0, c1, c2, c3⟩
    have hsY : Y.heap.size = w.heap.size + 2 := by rw [hY]; simp
    have HBY : Hid (b < w.heap.size) := h.lt
    have HKP : Hid (∀ W, Y.grownBy W (some b) → W.cell? ⟨w.heap.size, 0, none⟩ = some (.int .i64 (-1)) ∧ W.cell? ⟨w.heap.size, 1, none⟩ = some (.int .i64 (e : Nat)) ∧ W.cell? ⟨w.heap.size + 1, 0, none⟩ = some (.int .i64 (-1)) ∧ W.cell? ⟨w.heap.size + 1, 1, none⟩ = some (.int .i64 (f : Nat))) := fun W hW => by
      have hbk := HBY.out
      have hk : ∀ k o : Nat, w.heap.size ≤ k → k < Y.heap.size → W.cell? ⟨k, o, none⟩ = Y.cell? ⟨k, o, none⟩ := fun k o h1 h2 => by
        unfold World.cell?
        rw [hW.block k h2 (fun e => by have := Option.some.inj e; omega)]
      exact ⟨(hk _ _ (by omega) (by omega)).trans c0, (hk _ _ (by omega) (by omega)).trans c1, (hk _ _ (by omega) (by omega)).trans c2, (hk _ _ (by omega) (by omega)).trans c3⟩
    have hlkD : ∀ n, (Instr.lookup 122 (.map (some b)) (.agg #[.int .i64 (-1), .int .i64 (e : Nat)]) false).run Try.prog ((Y.drewN n).drew) = .ok (.agg #[.int .i64 y0, .int .i64 y1]) ((Y.drewN n).drew) := fun n => hlk (n + 1)
    have hlfD : ∀ n, (Instr.lookup 122 (.map (some b)) (.agg #[.int .i64 (-1), .int .i64 (f : Nat)]) false).run Try.prog ((Y.drewN n).drew) = .ok (.agg #[.int .i64 z0, .int .i64 z1]) ((Y.drewN n).drew) := fun n => hlf (n + 1)
    clear hY hMY hMD eTe eTf hsY h hef
    rcases hne with hne | ⟨rfl, hne⟩ <;>
    · go_enter Try.func86, Try.ntmps86
      go_wp2
      rw [← HY.out]
      go_quiet (fail)
      clear hlk hlf
      go_wp2
      have q1 := hlkD nq
      have q2 := hlfD nq
      have HQD : Hid (Y.grownBy (Y.drewN nq).drew (some b)) := HGD.out (nq + 1)
      have HMQ : Hid (MapT (Y.drewN nq).drew b m S T) := HMD.out (nq + 1)
      clear hlkD hlfD
      generalize Y.drewN nq = V at q1 q2 HQD HMQ ⊢
      go_region_held3 (fun W => W.cell? ⟨w.heap.size, 0, none⟩ = some (.int .i64 (-1)) ∧ W.cell? ⟨w.heap.size, 1, none⟩ = some (.int .i64 (e : Nat)) ∧ W.cell? ⟨w.heap.size + 1, 0, none⟩ = some (.int .i64 (-1)) ∧ W.cell? ⟨w.heap.size + 1, 1, none⟩ = some (.int .i64 (f : Nat))) (first | exact HKP.out _ HQD.out | exact HK3.out) (first
        | (go_at_call 138; refine (HT.out _ HMQ.out).mono ?_; rintro e9 w3 ⟨rfl, hM3, hg3⟩
           have HG3 : Hid (Y.grownBy w3 (some b)) := grown_two HQD.out hg3
           have HK3 : Hid (w3.cell? ⟨w.heap.size, 0, none⟩ = some (.int .i64 (-1)) ∧ w3.cell? ⟨w.heap.size, 1, none⟩ = some (.int .i64 (e : Nat)) ∧ w3.cell? ⟨w.heap.size + 1, 0, none⟩ = some (.int .i64 (-1)) ∧ w3.cell? ⟨w.heap.size + 1, 1, none⟩ = some (.int .i64 (f : Nat))) := HKP.out _ (grown_two HQD.out hg3)))
      all_goals
        have HFN : Hid (MapT w3 b (m + 2) S (tieF T (T e) (T f)) ∧ w.grownBy w3 (some b)) := ⟨HMF.out _ hM3, grown_two HGY.out HG3.out⟩
        clear hM3 hg3
        go_wp2
        go_ret
        exact ⟨rfl, HFN.out⟩
end Go.Proofs.Ytphhlflcghffbaa
