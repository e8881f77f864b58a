/- Several texts of the proof, one behind the other. -/
import Derived.Test.YtnlcknlodjjdbaaDoorTL8P
import Derived.Test.YtnlcknlodjjdbaaDoorTG4P
import Derived.Test.YtnlcknlodjjdbaaDoorTL2P
/- What the walker keeps: its cells; the walk of tangle.walker.number. -/
namespace Go.Proofs.YtnlcknlodjjdbaaDoor
open Go.RowKit Go.Maps

/-- Where the number of a spot's arc is kept. -/
def ixA (x : Nat) : Nat := 6 * (x / 4 - 1) + x % 4
/-- On which side the strand k of crossing c was walked in. -/
def dBt (L : List Nat) (c k : Nat) : Int := if 4 * c + 4 + k + 2 ∈ L then (k : Int) + 2 else if 4 * c + 4 + k ∈ L then (k : Int) else 0
/-- The walker's cells. -/
def cellF (U : Nat → Nat) (L : List Nat) (j : Nat) : Int := if j % 6 < 4 then FL U L (4 * (j / 6) + 4 + j % 6) else dBt L (j / 6) (j % 6 - 4)
theorem spV_at {n x : Nat} (h : Sp n x) : spV x = .agg #[.int .i64 ((x / 4 - 1 : Nat) : Int), .int .i64 ((x % 4 : Nat) : Int)] := by
  unfold Sp at h
  unfold spV
  rw [show (((x / 4 : Nat) : Int) - 1) = ((x / 4 - 1 : Nat) : Int) by omega]
theorem cellF_ix {n x : Nat} (U : Nat → Nat) (L : List Nat) (h : Sp n x) : cellF U L (ixA x) = FL U L x := by
  unfold Sp at h
  have e1 : ixA x % 6 = x % 4 := by unfold ixA; omega
  have e2 : ixA x / 6 = x / 4 - 1 := by unfold ixA; omega
  unfold cellF
  rw [e1, e2, if_pos (by omega)]
  congr 1
  omega
theorem dB_step {n : Nat} {L : List Nat} {x : Nat} (hx : Sp n x) (h2 : acr x ∉ L) (c k : Nat) (hk : k < 2) : dBt (L ++ [x]) c k = if c = x / 4 - 1 ∧ k = x % 2 then ((x % 4 : Nat) : Int) else dBt L c k := by
  unfold Sp at hx
  unfold dBt
  by_cases e : c = x / 4 - 1 ∧ k = x % 2
  · rw [if_pos e]
    obtain ⟨rfl, rfl⟩ := e
    by_cases hs : x % 4 < 2
    · have e1 : 4 * (x / 4 - 1) + 4 + x % 2 = x := by omega
      have e2 : 4 * (x / 4 - 1) + 4 + x % 2 + 2 = acr x := by unfold acr; omega
      rw [e2, e1, if_neg (by simp [h2, acr_ne]), if_pos (by simp)]
      omega
    · have e2 : 4 * (x / 4 - 1) + 4 + x % 2 + 2 = x := by omega
      rw [e2, if_pos (by simp)]
      omega
  · rw [if_neg e]
    have e1 : 4 * c + 4 + k ≠ x := fun h => e ⟨by omega, by omega⟩
    have e2 : 4 * c + 4 + k + 2 ≠ x := fun h => e ⟨by omega, by omega⟩
    have m1 : (4 * c + 4 + k + 2 ∈ L ++ [x]) ↔ (4 * c + 4 + k + 2 ∈ L) := by simp [e2]
    have m2 : (4 * c + 4 + k ∈ L ++ [x]) ↔ (4 * c + 4 + k ∈ L) := by simp [e1]
    simp only [m1, m2]
theorem cell_step {n : Nat} {U : Nat → Nat} (hU : Ties n U) {L : List Nat} {x : Nat} (hx : Sp n x) (h1 : x ∉ L) (h2 : acr x ∉ L) (h3 : U x ∉ L) :
    (((mapI (6 * n) (cellF U L)).set (ixA x) ((L.length : Int) + 1)).set (ixA (U x)) ((L.length : Int) + 1)).set (6 * (x / 4 - 1) + 4 + x % 2) ((x % 4 : Nat) : Int) = mapI (6 * n) (cellF U (L ++ [x])) := by
  have hUx := hU.sp x hx
  rw [mapI_set _ _ (fun j => if j = ixA x then (L.length : Int) + 1 else cellF U L j) (ixA x) _ (fun j _ => rfl), mapI_set _ _ (fun j => if j = ixA (U x) then (L.length : Int) + 1 else if j = ixA x then (L.length : Int) + 1 else cellF U L j) (ixA (U x)) _ (fun j _ => rfl)]
  refine mapI_set _ _ _ _ _ fun j hj => ?_
  have q1 := hx
  have q2 := hUx
  unfold Sp at q1 q2
  unfold cellF
  by_cases hr : j % 6 < 4
  · rw [if_pos hr, if_pos hr, FL_step hU h1 h3 hx (y := 4 * (j / 6) + 4 + j % 6) (by unfold Sp; omega)]
    rw [if_neg (show ¬ j = 6 * (x / 4 - 1) + 4 + x % 2 by omega)]
    by_cases e1 : 4 * (j / 6) + 4 + j % 6 = x
    · rw [if_pos (Or.inl e1)]
      have : j = ixA x := by unfold ixA; omega
      by_cases e2 : j = ixA (U x)
      · rw [if_pos e2]
      · rw [if_neg e2, if_pos this]
    · by_cases e2 : 4 * (j / 6) + 4 + j % 6 = U x
      · rw [if_pos (Or.inr e2)]
        have : j = ixA (U x) := by unfold ixA; omega
        rw [if_pos this]
      · rw [if_neg (fun h => h.elim e1 e2), if_neg (fun h => e2 (by unfold ixA at h; omega)), if_neg (fun h => e1 (by unfold ixA at h; omega))]
  · rw [if_neg hr, if_neg hr, dB_step hx h2 _ _ (by omega)]
    rw [if_neg (show ¬ j = ixA (U x) by unfold ixA; omega), if_neg (show ¬ j = ixA x by unfold ixA; omega)]
    by_cases e : j = 6 * (x / 4 - 1) + 4 + x % 2
    · rw [if_pos e, if_pos ⟨by omega, by omega⟩]
    · rw [if_neg e, if_neg (fun h => e (by omega))]

set_option maxHeartbeats 4000000 in
set_option maxRecDepth 100000 in
theorem number_any (gW gP b B n x : Nat) (k : Int) (row : List Int) (w : World) (hx : Sp n x) (hW : w.heap[gW]? = some (.cells #[.map (some b), .slice (some ⟨gP, 0, none⟩) n n, .int .i64 k] 73 (0, 0)))
    (hP : w.ownsRow B 77 6 (.slice (some ⟨gP, 0, none⟩) n n) n (intsV row)) :
    Calls Tryd.prog 42 #[.pointer (some ⟨gW, 0, none⟩), spV x] w fun r w' => r = .returned (.tuple #[]) ∧ w'.ownsRow B 77 6 (.slice (some ⟨gP, 0, none⟩) n n) n (intsV (row.set (ixA x) k)) ∧ w.grownBy w' (some gP) := by
  have hgP := (hP.lt gP rfl).2
  have hlen : row.length = n * 6 := by have := hP.1; simpa [intsV] using this
  rw [spV_at hx]
  have hx' := hx
  unfold Sp at hx'
  have HIX : Hid (ixA x = 6 * (x / 4 - 1) + x % 4) := (rfl : ixA x = 6 * (x / 4 - 1) + x % 4)
  have hc1 : x / 4 - 1 < n := by omega
  have hs1 : x % 4 < 4 := by omega
  generalize x / 4 - 1 = c at HIX hc1 ⊢
  generalize x % 4 = s at HIX hs1 ⊢
  obtain ⟨Y, hY⟩ : ∃ Y, Y = w.alloc (.cells #[.int .i64 (c : Nat), .int .i64 (s : Nat)] 67) := ⟨_, rfl⟩
  have HY : Hid (Y = w.alloc (.cells #[.int .i64 (c : Nat), .int .i64 (s : Nat)] 67)) := hY
  have hbY : Y.heap[w.heap.size]? = some (.cells #[.int .i64 (c : Nat), .int .i64 (s : Nat)] 67 (0, 0)) := by rw [hY]; exact box_at _ _
  have hgW := (Array.getElem?_eq_some_iff.1 hW).1
  have hWY : Y.heap[gW]? = some (.cells #[.map (some b), .slice (some ⟨gP, 0, none⟩) n n, .int .i64 k] 73 (0, 0)) := by rw [hY, box_low _ _ hgW]; exact hW
  have hPY : Y.ownsRow B 77 6 (.slice (some ⟨gP, 0, none⟩) n n) n (intsV row) := by rw [hY]; exact hP.alloc _
  have c0 : Y.cell? ⟨w.heap.size, 0, none⟩ = some (.int .i64 (c : Nat)) := block_cell hbY rfl
  have c1 : Y.cell? ⟨w.heap.size, 1, none⟩ = some (.int .i64 (s : Nat)) := block_cell hbY rfl
  have d1 : Y.cell? ⟨gW, 1, none⟩ = some (.slice (some ⟨gP, 0, none⟩) n n) := block_cell hWY rfl
  have d2 : Y.cell? ⟨gW, 2, none⟩ = some (.int .i64 k) := block_cell hWY rfl
  have e0 : Y.cell? ⟨gP, c * 6 + s, none⟩ = some (.int .i64 (row.getD (c * 6 + s) 0)) := by
    rw [hPY.cellAt (c * 6 + s) (by omega), intsV_getG _ _ (by omega)]
  have f0 : Y.frozen? ⟨gP, c * 6 + s, none⟩ = false := hPY.frozenAt _
  have hst := hPY.stored (c * 6 + s) (.int .i64 k)
  rw [intsV_set] at hst
  have HFN : Hid ((Y.setCell ⟨gP, c * 6 + s, none⟩ (.int .i64 k)).drew.ownsRow B 77 6 (.slice (some ⟨gP, 0, none⟩) n n) n (intsV (row.set (ixA x) k)) ∧ w.grownBy (Y.setCell ⟨gP, c * 6 + s, none⟩ (.int .i64 k)).drew (some gP)) := (by
    rw [HIX.out, show 6 * c + s = c * 6 + s by omega]
    refine ⟨own_any hst.1 (grown_below ((Below.refl _ _).drew) none), ?_⟩
    have h1 : w.grownBy Y (some gP) := by rw [hY]; exact World.grownBy_alloc _ _ _
    exact grown_two h1 (grown_two hst.2 (grown_below ((Below.refl _ _).drew) _)))
  have hcI : (c : Int) < (n : Int) := by omega
  have hsI : (s : Int) < 4 := by omega
  have hgW2 : gW < Y.heap.size := by rw [hY]; simp; omega
  have hsY : w.heap.size < Y.heap.size := by rw [hY]; simp
  have hgP2 : gP < Y.heap.size := by rw [hY]; simp; omega
  clear hY hbY hWY hPY hst hW hP HIX hx hx'
  go_enter Tryd.func42, Tryd.ntmps42
  go_wp2
  rw [← HY.out]
  apply cut_one
  case h =>
    intro key
    go_region_with (fail)
    all_goals exact key.out
  exact bodyPost_end (v := .tuple #[]) (results_none rfl _ _ _) rfl ⟨rfl, HFN.out⟩
end Go.Proofs.YtnlcknlodjjdbaaDoor
/- The walk of tangle.ties.join. -/
namespace Go.Proofs.YtnlcknlodjjdbaaDoor
open Go.RowKit Go.Maps

set_option maxHeartbeats 4000000 in
set_option maxRecDepth 100000 in
theorem join_any (b m e f : Nat) (S : Nat → Prop) (T : Nat → Nat) (w : World) (h : MapT w b m S T) (he : e < 4) (hf : f < 4) (hSe : S e) (hSf : S f) (hTe : T e < 80) (hTf : T f < 80) (hm : m ≤ 800) :
    Calls Tryd.prog 15 #[.map (some b), .int .i64 (e : Nat), .int .i64 (f : Nat)] w fun r w' => r = .returned (.int .i64 (if T e = f then 1 else 0)) ∧ MapT w' b (m + 2) S (if T e = f then T else tieF T (T e) (T f)) ∧ w.grownBy w' (some b) := by
  have eE : spV e = .agg #[.int .i64 (-1), .int .i64 (e : Nat)] := by
    unfold spV
    rw [show e / 4 = 0 by omega, show e % 4 = e by omega]
    rfl
  have eF : spV f = .agg #[.int .i64 (-1), .int .i64 (f : Nat)] := by
    unfold spV
    rw [show f / 4 = 0 by omega, show f % 4 = f by omega]
    rfl
  obtain ⟨Y, hY⟩ : ∃ Y, Y = (w.alloc (.cells #[.int .i64 (-1), .int .i64 (e : Nat)] 67)).alloc (.cells #[.int .i64 (-1), .int .i64 (f : Nat)] 67) := ⟨_, rfl⟩
  have HY : Hid (Y = (w.alloc (.cells #[.int .i64 (-1), .int .i64 (e : Nat)] 67)).alloc (.cells #[.int .i64 (-1), .int .i64 (f : Nat)] 67)) := hY
  have HGY : Hid (w.grownBy Y (some b)) := (by rw [hY]; exact grown_two (World.grownBy_alloc _ _ _) (World.grownBy_alloc _ _ _) : w.grownBy Y (some b))
  have hMY : MapT Y b m S T := h.kept (row := none) (by rw [hY]; exact grown_two (World.grownBy_alloc _ _ _) (World.grownBy_alloc _ _ _)) (by simp)
  obtain ⟨c0, c1, c2, c3⟩ := two_boxes w (.int .i64 (-1)) (.int .i64 (e : Nat)) (.int .i64 (-1)) (.int .i64 (f : Nat)) 67
  rw [← hY] at c0 c1 c2 c3
  have hMD : ∀ n, MapT (Y.drewN n) b m S T := fun n => hMY.kept (grown_below (below_drewN (Below.refl _ _) n) none) (by simp)
  have HGD : Hid (∀ n, Y.grownBy (Y.drewN n) (some b)) := fun n => grown_below (below_drewN (Below.refl _ _) n) _
  have HMD : Hid (∀ n, MapT (Y.drewN n) b m S T) := hMD
  have hlk : ∀ n, (Instr.lookup 44 (.map (some b)) (.agg #[.int .i64 (-1), .int .i64 (e : Nat)]) false).run Tryd.prog (Y.drewN n) = .ok (spV (T e)) (Y.drewN n) := fun n => by rw [← eE]; exact (hMD n).look e hSe (by omega)
  have hlf : ∀ n, (Instr.lookup 44 (.map (some b)) (.agg #[.int .i64 (-1), .int .i64 (f : Nat)]) false).run Tryd.prog (Y.drewN n) = .ok (spV (T f)) (Y.drewN n) := fun n => by rw [← eF]; exact (hMD n).look f hSf (by omega)
  have HT : Hid (∀ W, MapT W b m S T → Calls Tryd.prog 26 #[.map (some b), spV (T e), spV (T f)] W fun r w' => r = .returned (.tuple #[]) ∧ MapT w' b (m + 2) (fun z => z = T f ∨ z = T e ∨ S z) (tieF T (T e) (T f)) ∧ W.grownBy w' (some b)) := fun W hW => tie_any b m S T (T e) (T f) W hW hTe hTf (by omega)
  by_cases hef : T e = f
  · rw [if_pos hef, if_pos hef]
    rw [hef, eF] at hlk
    clear hlf HT hY hMY hMD
    go_enter Tryd.func15, Tryd.ntmps15
    go_wp2
    rw [← HY.out]
    go_quiet (fail)
    go_wp2
    go_ret
    exact ⟨rfl, (HMD.out _).congr (by omega) (fun z hz => ⟨hz, rfl⟩), grown_two HGY.out (HGD.out _)⟩
  · rw [if_neg hef, if_neg hef]
    have HMF : Hid (∀ W, MapT W b (m + 2) (fun z => z = T f ∨ z = T e ∨ S z) (tieF T (T e) (T f)) → MapT W b (m + 2) S (tieF T (T e) (T f))) := fun W hW => hW.congr (Nat.le_refl _) (fun z hz => ⟨Or.inr (Or.inr hz), rfl⟩)
    obtain ⟨y0, y1, z0, z1, eTe, eTf, hne⟩ : ∃ y0 y1 z0 z1 : Int, spV (T e) = .agg #[.int .i64 y0, .int .i64 y1] ∧ spV (T f) = .agg #[.int .i64 z0, .int .i64 z1] ∧ ((y0 == -1) = false ∨ (y0 = -1 ∧ (y1 == (f : Int)) = false)) := by
      refine ⟨_, _, _, _, rfl, rfl, ?_⟩
      by_cases h4 : T e < 4
      · refine Or.inr ⟨by omega, ?_⟩
        simp
        omega
      · refine Or.inl ?_
        simp
        omega
    rw [eTe] at hlk HT
    rw [eTf] at hlf HT
    have HCS : Hid (∀ n, (Y.drewN n).cell? ⟨w.heap.size, 0, none⟩ = some (.int .i64 (-1)) ∧ (Y.drewN n).cell? ⟨w.heap.size, 1, none⟩ = some (.int .i64 (e : Nat)) ∧ (Y.drewN n).cell? ⟨w.heap.size + 1, 0, none⟩ = some (.int .i64 (-1)) ∧ (Y.drewN n).cell? ⟨w.heap.size + 1, 1, none⟩ = some (.int .i64 (f : Nat))) := fun n => by
      have hk : ∀ (W : World) (a : Addr), (W.drewN n).cell? a = W.cell? a := fun W a => by
        induction n with
        | zero => rfl
        | succ n ih => exact ih
      rw [hk, hk, hk, hk]
      exact ⟨c0, c1, c2, c3⟩
    have hsY : Y.heap.size = w.heap.size + 2 := by rw [hY]; simp
    have HBY : Hid (b < w.heap.size) := h.lt
    have HKP : Hid (∀ W, Y.grownBy W (some b) → W.cell? ⟨w.heap.size, 0, none⟩ = some (.int .i64 (-1)) ∧ W.cell? ⟨w.heap.size, 1, none⟩ = some (.int .i64 (e : Nat)) ∧ W.cell? ⟨w.heap.size + 1, 0, none⟩ = some (.int .i64 (-1)) ∧ W.cell? ⟨w.heap.size + 1, 1, none⟩ = some (.int .i64 (f : Nat))) := fun W hW => by
      have hbk := HBY.out
      have hk : ∀ k o : Nat, w.heap.size ≤ k → k < Y.heap.size → W.cell? ⟨k, o, none⟩ = Y.cell? ⟨k, o, none⟩ := fun k o h1 h2 => by
        unfold World.cell?
        rw [hW.block k h2 (fun e => by have := Option.some.inj e; omega)]
      exact ⟨(hk _ _ (by omega) (by omega)).trans c0, (hk _ _ (by omega) (by omega)).trans c1, (hk _ _ (by omega) (by omega)).trans c2, (hk _ _ (by omega) (by omega)).trans c3⟩
    have hlkD : ∀ n, (Instr.lookup 44 (.map (some b)) (.agg #[.int .i64 (-1), .int .i64 (e : Nat)]) false).run Tryd.prog ((Y.drewN n).drew) = .ok (.agg #[.int .i64 y0, .int .i64 y1]) ((Y.drewN n).drew) := fun n => hlk (n + 1)
    have hlfD : ∀ n, (Instr.lookup 44 (.map (some b)) (.agg #[.int .i64 (-1), .int .i64 (f : Nat)]) false).run Tryd.prog ((Y.drewN n).drew) = .ok (.agg #[.int .i64 z0, .int .i64 z1]) ((Y.drewN n).drew) := fun n => hlf (n + 1)
    clear hY hMY hMD eTe eTf hsY h hef
    rcases hne with hne | ⟨rfl, hne⟩ <;>
    · go_enter Tryd.func15, Tryd.ntmps15
      go_wp2
      rw [← HY.out]
      go_quiet (fail)
      clear hlk hlf
      go_wp2
      have q1 := hlkD nq
      have q2 := hlfD nq
      have HQD : Hid (Y.grownBy (Y.drewN nq).drew (some b)) := HGD.out (nq + 1)
      have HMQ : Hid (MapT (Y.drewN nq).drew b m S T) := HMD.out (nq + 1)
      clear hlkD hlfD
      generalize Y.drewN nq = V at q1 q2 HQD HMQ ⊢
      go_region_held3 (fun W => W.cell? ⟨w.heap.size, 0, none⟩ = some (.int .i64 (-1)) ∧ W.cell? ⟨w.heap.size, 1, none⟩ = some (.int .i64 (e : Nat)) ∧ W.cell? ⟨w.heap.size + 1, 0, none⟩ = some (.int .i64 (-1)) ∧ W.cell? ⟨w.heap.size + 1, 1, none⟩ = some (.int .i64 (f : Nat))) (first | exact HKP.out _ HQD.out | exact HK3.out) (first
        | (go_at_call 26; refine (HT.out _ HMQ.out).mono ?_; rintro e9 w3 ⟨rfl, hM3, hg3⟩
           have HG3 : Hid (Y.grownBy w3 (some b)) := grown_two HQD.out hg3
           have HK3 : Hid (w3.cell? ⟨w.heap.size, 0, none⟩ = some (.int .i64 (-1)) ∧ w3.cell? ⟨w.heap.size, 1, none⟩ = some (.int .i64 (e : Nat)) ∧ w3.cell? ⟨w.heap.size + 1, 0, none⟩ = some (.int .i64 (-1)) ∧ w3.cell? ⟨w.heap.size + 1, 1, none⟩ = some (.int .i64 (f : Nat))) := HKP.out _ (grown_two HQD.out hg3)))
      all_goals
        have HFN : Hid (MapT w3 b (m + 2) S (tieF T (T e) (T f)) ∧ w.grownBy w3 (some b)) := ⟨HMF.out _ hM3, grown_two HGY.out HG3.out⟩
        clear hM3 hg3
        go_wp2
        go_ret
        exact ⟨rfl, HFN.out⟩
end Go.Proofs.YtnlcknlodjjdbaaDoor
