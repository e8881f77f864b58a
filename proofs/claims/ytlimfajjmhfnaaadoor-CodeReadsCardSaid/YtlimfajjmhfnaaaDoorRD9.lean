/- The walk of ref.ReadDiagram. Made by genrd9.py. -/
import Derived.Test.YtlimfajjmhfnaaaDoorRD8b
import Derived.Test.YtlimfajjmhfnaaaDoorRD9m
namespace Go.Proofs.YtlimfajjmhfnaaaDoor
open Go.RowKit

/-- A diagram that is read, under way. -/
structure DgAt (w : World) (acc : List Cr) (m : Nat) (v : Value) (W : World) : Prop where
  rbox : W.heap[w.heap.size]? = some (.cells #[.slice none 0 0, .int .i64 0] 37 (0, 0))
  dbox : W.heap[w.heap.size + 1]? = some (.cells #[v, .int .i64 (m : Nat)] 37 (0, 0))
  row : W.ownsRow (w.heap.size + 2) 53 5 v acc.length (crossCells acc)
  bel : Below w.heap.size w W
  size : w.heap.size + 2 ≤ W.heap.size
theorem DgAt.up {w W W' : World} {acc : List Cr} {m : Nat} {v : Value} (h : DgAt w acc m v W) (hb : Below W.heap.size W W') : DgAt w acc m v W' :=
  ⟨(hb.block _ (by have := h.size; omega)).trans h.rbox, (hb.block _ (by have := h.size; omega)).trans h.dbox, own_any h.row (grown_below hb none), h.bel.trans (hb.mono h.bel.size), Nat.le_trans h.size hb.size⟩
theorem DgAt.more {w W : World} {acc : List Cr} {m : Nat} {v : Value} (h : DgAt w acc m v W) : DgAt w acc (m + 1) v (W.setCell ⟨w.heap.size + 1, 1, none⟩ (.int .i64 ((m + 1 : Nat) : Int))) := by
  have hs := h.size
  refine ⟨set_other h.rbox (by omega), set_block h.dbox, h.row.kept (set_grown _ _ _ _) (Or.inr (fun e => by have := (h.row.lt _ e).1; omega)), h.bel.setCell (p := ⟨w.heap.size + 1, 1, none⟩) (by simp) _, by simp; omega⟩
theorem DgAt.push {w w5 w8 : World} {acc : List Cr} {m c3 c8 : Nat} {a3 a8 : Option Addr} {c : Cr} (h : DgAt w acc m (.slice a3 acc.length c3) w5) (hown : w8.ownsRow (w.heap.size + 2) 53 5 (.slice a8 (acc.length + 1) c8) (acc.length + 1) (crossCells acc ++ [.int .i64 c.a, .int .i64 c.b, .int .i64 c.c, .int .i64 c.d, .bool c.plus])) (hg : ((w5.alloc (.cells #[.int .i64 c.a, .int .i64 c.b, .int .i64 c.c, .int .i64 c.d, .bool c.plus] 53)).alloc (.cells #[.int .i64 c.a, .int .i64 c.b, .int .i64 c.c, .int .i64 c.d, .bool c.plus] 53)).grownBy w8 (Value.slice a3 acc.length c3).ownBlock) : DgAt w (acc ++ [c]) m (.slice a8 (acc.length + 1) c8) (w8.setCell ⟨w.heap.size + 1, 0, none⟩ (.slice a8 (acc.length + 1) c8)) := by
  have hs := h.size
  have hrA := (h.row.alloc (.cells #[.int .i64 c.a, .int .i64 c.b, .int .i64 c.c, .int .i64 c.d, .bool c.plus] 53)).alloc (.cells #[.int .i64 c.a, .int .i64 c.b, .int .i64 c.c, .int .i64 c.d, .bool c.plus] 53)
  have hl8 : (acc ++ [c]).length = acc.length + 1 := by simp
  have hr8 : w8.ownsRow (w.heap.size + 2) 53 5 (.slice a8 (acc.length + 1) c8) (acc ++ [c]).length (crossCells (acc ++ [c])) := by
    rw [hl8, show crossCells (acc ++ [c]) = crossCells acc ++ [.int .i64 c.a, .int .i64 c.b, .int .i64 c.c, .int .i64 c.d, .bool c.plus] by simp [crossCells]]
    exact hown
  have hbk : ∀ k o, k < w.heap.size + 2 → w5.heap[k]? = some o → w8.heap[k]? = some o := fun k o hk ho => by
    rw [hg.block k (by simp; omega) (fun e => by have := (hrA.lt _ e.symm).1; omega)]
    exact alloc_old (alloc_old ho)
  have hz8 := hg.size
  simp at hz8
  have hbe : Below w.heap.size w w8 := ((h.bel.alloc h.bel.size (.cells #[.int .i64 c.a, .int .i64 c.b, .int .i64 c.c, .int .i64 c.d, .bool c.plus] 53)).alloc (by simp; omega) (.cells #[.int .i64 c.a, .int .i64 c.b, .int .i64 c.c, .int .i64 c.d, .bool c.plus] 53)).grown hg (by simp; omega) (fun q hq => by have := (hrA.lt q hq).1; omega)
  refine ⟨set_other (hbk _ _ (by omega) h.rbox) (by omega), set_block (hbk _ _ (by omega) h.dbox), hr8.kept (set_grown _ _ _ _) (Or.inr (fun e => by have := (hr8.lt _ e).1; omega)), hbe.setCell (p := ⟨w.heap.size + 1, 0, none⟩) (by simp) _, by simp; omega⟩
theorem res_dg {W : World} {g : Nat} {a b : Value} {x : Int} {tm : Array Value} (h : W.heap[g]? = some (.cells #[a, b] 37 (0, 0))) (h2 : tm[2]? = some (.pointer (some ⟨g, 0, none⟩))) (h3 : tm[3]? = some (.int .i64 x)) : (results Tryd.f13 tm).run Tryd.prog W = .ok (.tuple #[.agg #[a, b], .int .i64 x]) W := by
  have e0 : W.cell? ⟨g, 0, none⟩ = some a := block_cell h rfl
  have e1 : W.cell? ⟨g, 1, none⟩ = some b := block_cell h rfl
  simp [results, Tryd.results13, go_sem, h2, h3, e0, e1]

set_option maxHeartbeats 16000000 in
set_option maxRecDepth 100000 in
theorem readDiagram_any (L : List UInt8) (w : World) (hL0 : L.length ≤ 9223372036854775807) :
    Calls Tryd.prog 13 #[.string ⟨L.toArray⟩] w fun e w' => ReadOut w w' L e := by
  have hz : (⟨L.toArray⟩ : ByteArray).size = L.length := arr_size L
  have HB1 : Hid (Below w.heap.size w (w.alloc (.cells #[.slice none 0 0, .int .i64 0] 37))) := (Below.refl _ _).alloc (Nat.le_refl _) _
  by_cases hbig : 2000 < L.length
  · have hv : rdM L = (2, [], 0) := by unfold rdM; rw [if_pos hbig]
    have HV := hid_of hv
    have hI : (2000 : Int) < (L.length : Int) := by omega
    clear hv
    go_enter Tryd.func13, Tryd.ntmps13
    go_wp2
    exact bodyPost_ret (v := .tuple #[.agg #[.slice none 0 0, .int .i64 0], .int .i64 2]) (res_dg (alloc_at rfl) rfl rfl) rfl ⟨.slice none 0 0, by rw [HV.out]; rfl, by rw [HV.out]; exact crs_nil _, HB1.out⟩
  · have hI : ¬ (2000 : Int) < (L.length : Int) := by omega
    obtain ⟨i0, hi, hz0, hz1, hz2⟩ := info_parts infoCross
    obtain ⟨R, hR⟩ : ∃ R, readP (fieldsC [] L) [] 0 = R := ⟨_, rfl⟩
    have HRN : Hid (R = none → rdM L = (1, [], 0)) := (fun h => by unfold rdM; rw [if_neg hbig, hR, h] : R = none → rdM L = (1, [], 0))
    have HRS0 : Hid (∀ acc m, R = some (acc, m) → rdM L = if mayD acc (m : Nat) then (0, acc, m) else (7, [], 0)) := (fun acc m h => by unfold rdM; rw [if_neg hbig, hR, h] : ∀ acc m, R = some (acc, m) → rdM L = if mayD acc (m : Nat) then (0, acc, m) else (7, [], 0))
    have HR0 : Hid (rs (L.drop 0) [] 0 = R) := (by rw [List.drop_zero, rs_all, hR] : rs (L.drop 0) [] 0 = R)
    have HI0 : Hid (DgAt w [] 0 (.slice none 0 0) ((w.alloc (.cells #[.slice none 0 0, .int .i64 0] 37)).alloc (.cells #[.slice none 0 0, .int .i64 0] 37))) := ⟨alloc_old (alloc_at rfl), alloc_at (by simp), World.ownsRow_nil _ _ _ _, HB1.out.alloc HB1.out.size _, by simp⟩
    clear hR HB1
    go_enter Tryd.func13, Tryd.ntmps13
    go_wp2
    go_loopw [5] (fun v5 wr => ∃ (k m : Nat) (acc : List Cr) (a3 : Option Addr) (c3 : Nat), k ≤ L.length ∧ m ≤ k ∧ acc.length ≤ k ∧ v5 = .int .i64 (k : Nat) ∧ Hid (rs (L.drop k) acc m = R) ∧ Hid (DgAt w acc m (.slice a3 acc.length c3) wr)) (fun v5 _ => L.length - (intOf v5).toNat)
    case atStart => exact ⟨0, 0, [], none, 0, Nat.zero_le _, Nat.le_refl _, Nat.le_refl _, rfl, HR0, HI0⟩
    case round =>
      clear HI0 HR0
      rename World => W1
      obtain ⟨k, m, acc, a3, c3, hkL, hmk, hak, rfl, HRS, HP⟩ := hrel
      have hsW := HP.out.size
      by_cases hk : k < L.length
      · have hkI : (k : Int) < (L.length : Int) := by omega
        obtain ⟨b, hb9⟩ : ∃ b, L[k]'hk = b := ⟨_, rfl⟩
        have g9 : L[k]? = some b := by rw [← hb9]; exact List.getElem?_eq_getElem hk
        obtain ⟨c0, hc0⟩ : ∃ c0, b.toNat = c0 := ⟨_, rfl⟩
        have ix := idx_eq g9 hc0
        have HG9 := hid_of g9
        have HC9 := hid_of hc0
        obtain ⟨k1, hk1⟩ : ∃ k1, k + 1 = k1 := ⟨_, rfl⟩
        have hwk : IntKind.i64.wrap ((k : Int) + 1) = (k1 : Int) := by rw [IntWalk.i64_in _ (by omega)]; omega
        have hkk : k1 ≤ L.length ∧ k < k1 ∧ m + 1 ≤ k1 ∧ acc.length ≤ k1 := by omega
        have HK1 := hid_of hk1
        have HBA : Hid (∀ W : World, Calls Tryd.prog 24 #[.string ⟨L.toArray⟩, .int .i64 (k : Nat)] W fun e w' => e = .returned (.bool (blB b)) ∧ w' = W) := (fun W => by have h := blankAt_any L k W; rw [bl_drop g9] at h; exact h : ∀ W : World, Calls Tryd.prog 24 #[.string ⟨L.toArray⟩, .int .i64 (k : Nat)] W fun e w' => e = .returned (.bool (blB b)) ∧ w' = W)
        have HB1A : Hid (∀ W : World, Calls Tryd.prog 24 #[.string ⟨L.toArray⟩, .int .i64 (k1 : Nat)] W fun e w' => e = .returned (.bool (blH (L.drop k1))) ∧ w' = W) := blankAt_any L k1
        clear hb9 g9 hc0 hk1
        cases hbl : blB b with
        | true =>
          have HBL := hid_of hbl
          have HR2 : Hid (rs (L.drop k1) acc m = R) := (by rw [← HRS.out, rs_blank HG9.out hbl, HK1.out] : rs (L.drop k1) acc m = R)
          rw [hbl] at HBA
          clear hbl
          go_wp2_with (go_at_call 24; refine (HBA.out _).mono ?_; rintro e9 w9 ⟨rfl, e99⟩; obtain rfl := e99.symm; clear e99)
          go_roundw
          case rel => exact ⟨k1, m, acc, a3, c3, hkk.1, by omega, hkk.2.2.2, by rfl, HR2, HP⟩
          case measure => simp only [intOf]; omega
        | false =>
          have HBL := hid_of hbl
          rw [hbl] at HBA
          clear hbl
          have d0 : W1.cell? ⟨w.heap.size + 1, 0, none⟩ = some (.slice a3 acc.length c3) := block_cell HP.out.dbox rfl
          have d1 : W1.cell? ⟨w.heap.size + 1, 1, none⟩ = some (.int .i64 (m : Nat)) := block_cell HP.out.dbox rfl
          have f0 : W1.frozen? ⟨w.heap.size + 1, 0, none⟩ = false := block_frozen HP.out.dbox
          have f1 : W1.frozen? ⟨w.heap.size + 1, 1, none⟩ = false := block_frozen HP.out.dbox
          go_upto_region 8 with (go_at_call 24; refine (HBA.out _).mono ?_; rintro e9 w9 ⟨rfl, e99⟩; obtain rfl := e99.symm; clear e99)
          by_cases hO : c0 = 79
          · subst hO
            cases hb2 : blH (L.drop k1) with
            | true =>
              have HR2 : Hid (rs (L.drop k1) acc (m + 1) = R) := (by rw [← HK1.out]; exact (rs_loop (HG9.out.trans (congrArg some (u8_eq HC9.out))) (by rw [HK1.out]; exact hb2)).symm.trans HRS.out : rs (L.drop k1) acc (m + 1) = R)
              rw [hb2] at HB1A
              have hwm : IntKind.i64.wrap ((m : Int) + 1) = ((m + 1 : Nat) : Int) := by rw [IntWalk.i64_in _ (by omega)]; omega
              have HP2 : Hid (DgAt w acc (m + 1) (.slice a3 acc.length c3) (W1.setCell ⟨w.heap.size + 1, 1, none⟩ (.int .i64 ((m + 1 : Nat) : Int)))) := HP.out.more
              clear hb2
              go_wp2_with (go_at_call 24; refine (HB1A.out _).mono ?_; rintro e9 w9 ⟨rfl, e99⟩; obtain rfl := e99.symm; clear e99)
              go_roundw
              case rel => exact ⟨k1, m + 1, acc, a3, c3, hkk.1, hkk.2.2.1, hkk.2.2.2, by rfl, HR2, HP2⟩
              case measure => simp only [intOf]; omega
            | false =>
              have HNO : Hid (¬ (b = 79 ∧ blH (L.drop (k + 1)) = true)) := (fun h => by have h2 := h.2; rw [HK1.out, hb2] at h2; exact Bool.noConfusion h2 : ¬ (b = 79 ∧ blH (L.drop (k + 1)) = true))
              rw [hb2] at HB1A
              clear hb2
              go_upto_region 11 with (go_at_call 24; refine (HB1A.out _).mono ?_; rintro e9 w9 ⟨rfl, e99⟩; obtain rfl := e99.symm; clear e99)
              cases hcr : crossS (L.drop k) with
              | none =>
                have HM1 : Hid (ciV L k = .tuple #[.agg #[.int .i64 0, .int .i64 0, .int .i64 0, .int .i64 0, .bool false], .int .i64 (k : Nat)]) := ciV_none hcr
                have HV : Hid (rdM L = (1, [], 0)) := HRN.out (by rw [← HRS.out, rs_none HG9.out HBL.out HNO.out hcr])
                clear hcr
                go_wp2_with (go_at_call 25; refine (crossIn_any L k _ (by omega) (by omega)).mono ?_; rw [HM1.out]; rintro e9 w5 ⟨rfl, hb5⟩; have HP5 : Hid (DgAt w acc m (.slice a3 acc.length c3) w5) := HP.out.up hb5; have r0 : w5.cell? ⟨w.heap.size, 0, none⟩ = some (.slice none 0 0) := block_cell HP5.out.rbox rfl; have r1 : w5.cell? ⟨w.heap.size, 1, none⟩ = some (.int .i64 0) := block_cell HP5.out.rbox rfl; have t0 : w5.frozen? ⟨w.heap.size, 0, none⟩ = false := block_frozen HP5.out.rbox; have t1 : w5.frozen? ⟨w.heap.size, 1, none⟩ = false := block_frozen HP5.out.rbox; have l5 : w.heap.size < w5.heap.size := Nat.lt_of_lt_of_le (Nat.lt_add_of_pos_right (by decide)) HP5.out.size; clear hb5)
                have hbe := ((HP5.out.bel.setCell (p := ⟨w.heap.size, 0, none⟩) (Nat.le_refl _) (.slice none 0 0)).setCell (p := ⟨w.heap.size, 1, none⟩) (Nat.le_refl _) (.int .i64 0))
                exact bodyPost_ret (v := .tuple #[.agg #[.slice none 0 0, .int .i64 0], .int .i64 1]) (res_dg (alloc_old (set_block (set_block HP5.out.rbox))) rfl rfl) rfl ⟨.slice none 0 0, by rw [HV.out]; rfl, by rw [HV.out]; exact crs_nil _, hbe.alloc (by simp; omega) _⟩
              | some qq =>
                obtain ⟨c, r⟩ := qq
                obtain ⟨e, hke, heL, hre, hle⟩ := crossS_at hcr
                have HM1 : Hid (ciV L k = .tuple #[.agg #[.int .i64 c.a, .int .i64 c.b, .int .i64 c.c, .int .i64 c.d, .bool c.plus], .int .i64 (e : Nat)]) := by
                  refine (?_ : ciV L k = _)
                  unfold ciV
                  rw [hcr]
                  simp only
                  rw [hle]
                have hne : ((e : Int) == (k : Int)) = false := beq_eq_false_iff_ne.2 (by omega)
                have HB2A : Hid (∀ W : World, Calls Tryd.prog 24 #[.string ⟨L.toArray⟩, .int .i64 (e : Nat)] W fun x w' => x = .returned (.bool (blH (L.drop e))) ∧ w' = W) := blankAt_any L e
                cases hb3 : blH (L.drop e) with
                | false =>
                  have HV : Hid (rdM L = (1, [], 0)) := HRN.out (by rw [← HRS.out, rs_bad HG9.out HBL.out HNO.out hcr (by rw [hre]; exact hb3)])
                  rw [hb3] at HB2A
                  clear hcr hre hle hb3
                  go_upto_region 12 with (go_at_call 25; refine (crossIn_any L k _ (by omega) (by omega)).mono ?_; rw [HM1.out]; rintro e9 w5 ⟨rfl, hb5⟩; have HP5 : Hid (DgAt w acc m (.slice a3 acc.length c3) w5) := HP.out.up hb5; have r0 : w5.cell? ⟨w.heap.size, 0, none⟩ = some (.slice none 0 0) := block_cell HP5.out.rbox rfl; have r1 : w5.cell? ⟨w.heap.size, 1, none⟩ = some (.int .i64 0) := block_cell HP5.out.rbox rfl; have t0 : w5.frozen? ⟨w.heap.size, 0, none⟩ = false := block_frozen HP5.out.rbox; have t1 : w5.frozen? ⟨w.heap.size, 1, none⟩ = false := block_frozen HP5.out.rbox; have l5 : w.heap.size < w5.heap.size := Nat.lt_of_lt_of_le (Nat.lt_add_of_pos_right (by decide)) HP5.out.size; clear hb5)
                  go_wp2_with (go_at_call 24; refine (HB2A.out _).mono ?_; rintro e9 w9 ⟨rfl, e99⟩; obtain rfl := e99.symm; clear e99)
                  have hbe := ((HP5.out.bel.setCell (p := ⟨w.heap.size, 0, none⟩) (Nat.le_refl _) (.slice none 0 0)).setCell (p := ⟨w.heap.size, 1, none⟩) (Nat.le_refl _) (.int .i64 0))
                  exact bodyPost_ret (v := .tuple #[.agg #[.slice none 0 0, .int .i64 0], .int .i64 1]) (res_dg (alloc_old (set_block (set_block HP5.out.rbox))) rfl rfl) rfl ⟨.slice none 0 0, by rw [HV.out]; rfl, by rw [HV.out]; exact crs_nil _, hbe.alloc (by simp; omega) _⟩
                | true =>
                  have HR2 : Hid (rs (L.drop e) (acc ++ [c]) m = R) := (by rw [← HRS.out, rs_cross HG9.out HBL.out HNO.out (by rw [hcr, hre]) hke hb3] : rs (L.drop e) (acc ++ [c]) m = R)
                  rw [hb3] at HB2A
                  clear hcr hre hle hb3
                  go_upto_region 12 with (go_at_call 25; refine (crossIn_any L k _ (by omega) (by omega)).mono ?_; rw [HM1.out]; rintro e9 w5 ⟨rfl, hb5⟩; have HP5 : Hid (DgAt w acc m (.slice a3 acc.length c3) w5) := HP.out.up hb5; have r0 : w5.cell? ⟨w.heap.size + 1, 0, none⟩ = some (.slice a3 acc.length c3) := block_cell HP5.out.dbox rfl; have l5 : w.heap.size + 2 ≤ w5.heap.size := HP5.out.size; have l6 : w.heap.size + 1 < w5.heap.size := HP5.out.size; clear hb5)
                  go_upto_region 14 with (go_at_call 24; refine (HB2A.out _).mono ?_; rintro e9 w9 ⟨rfl, e99⟩; obtain rfl := e99.symm; clear e99)
                  go_wp2_with (at_builtin; refine wpList_append_own _ rfl _ _ 35 rfl (w.heap.size + 2) 53 i0 (.agg #[.int .i64 0, .int .i64 0, .int .i64 0, .int .i64 0, .bool false]) 5 40 Tryd.underlying35 hi hz0 hz1 hz2 rfl (by decide) _ _ _ rfl ((HP5.out.row.alloc _).alloc _) ⟨w5.heap.size + 1, 0, none⟩ 1 1 [.int .i64 c.a, .int .i64 c.b, .int .i64 c.c, .int .i64 c.d, .bool c.plus] rfl rfl (new_cell5' (by simp) _ _ _ _ _ _) (fun u hu => cells_one [c] u (by simpa [crossCells] using hu)) (by unfold maxLen; omega) (by omega) (by simp; omega) ?_; intro v8 w8 hown8 hg8 _; obtain ⟨a8, c8, rfl⟩ := own_capS hown8; have HP8 : Hid (DgAt w (acc ++ [c]) m (.slice a8 (acc.length + 1) c8) (w8.setCell ⟨w.heap.size + 1, 0, none⟩ (.slice a8 (acc.length + 1) c8))) := HP5.out.push hown8 hg8; have hd8 : w8.heap[w.heap.size + 1]? = some (.cells #[.slice a3 acc.length c3, .int .i64 (m : Nat)] 37 (0, 0)) := (hg8.block _ (by simp; omega) (fun e => by have := (HP5.out.row.lt _ e.symm).1; omega)).trans (alloc_old (alloc_old HP5.out.dbox)); have d8 : w8.cell? ⟨w.heap.size + 1, 0, none⟩ = some (.slice a3 acc.length c3) := block_cell hd8 rfl; have g8 : w8.frozen? ⟨w.heap.size + 1, 0, none⟩ = false := block_frozen hd8; clear hown8 hg8 hd8)
                  go_roundw
                  case rel => exact ⟨e, m, acc ++ [c], a8, c8, heL, by omega, by simp; omega, by rfl, HR2, by simpa using HP8⟩
                  case measure => simp only [intOf]; omega
          · have hOb : ((c0 : Int) == 79) = false := beq_eq_false_iff_ne.2 (by omega)
            have HNO : Hid (¬ (b = 79 ∧ blH (L.drop (k + 1)) = true)) := (fun h => hO (by rw [← HC9.out, h.1]; rfl) : ¬ (b = 79 ∧ blH (L.drop (k + 1)) = true))
            go_upto_region 11 with (fail)
            cases hcr : crossS (L.drop k) with
            | none =>
              have HM1 : Hid (ciV L k = .tuple #[.agg #[.int .i64 0, .int .i64 0, .int .i64 0, .int .i64 0, .bool false], .int .i64 (k : Nat)]) := ciV_none hcr
              have HV : Hid (rdM L = (1, [], 0)) := HRN.out (by rw [← HRS.out, rs_none HG9.out HBL.out HNO.out hcr])
              clear hcr
              go_wp2_with (go_at_call 25; refine (crossIn_any L k _ (by omega) (by omega)).mono ?_; rw [HM1.out]; rintro e9 w5 ⟨rfl, hb5⟩; have HP5 : Hid (DgAt w acc m (.slice a3 acc.length c3) w5) := HP.out.up hb5; have r0 : w5.cell? ⟨w.heap.size, 0, none⟩ = some (.slice none 0 0) := block_cell HP5.out.rbox rfl; have r1 : w5.cell? ⟨w.heap.size, 1, none⟩ = some (.int .i64 0) := block_cell HP5.out.rbox rfl; have t0 : w5.frozen? ⟨w.heap.size, 0, none⟩ = false := block_frozen HP5.out.rbox; have t1 : w5.frozen? ⟨w.heap.size, 1, none⟩ = false := block_frozen HP5.out.rbox; have l5 : w.heap.size < w5.heap.size := Nat.lt_of_lt_of_le (Nat.lt_add_of_pos_right (by decide)) HP5.out.size; clear hb5)
              have hbe := ((HP5.out.bel.setCell (p := ⟨w.heap.size, 0, none⟩) (Nat.le_refl _) (.slice none 0 0)).setCell (p := ⟨w.heap.size, 1, none⟩) (Nat.le_refl _) (.int .i64 0))
              exact bodyPost_ret (v := .tuple #[.agg #[.slice none 0 0, .int .i64 0], .int .i64 1]) (res_dg (alloc_old (set_block (set_block HP5.out.rbox))) rfl rfl) rfl ⟨.slice none 0 0, by rw [HV.out]; rfl, by rw [HV.out]; exact crs_nil _, hbe.alloc (by simp; omega) _⟩
            | some qq =>
              obtain ⟨c, r⟩ := qq
              obtain ⟨e, hke, heL, hre, hle⟩ := crossS_at hcr
              have HM1 : Hid (ciV L k = .tuple #[.agg #[.int .i64 c.a, .int .i64 c.b, .int .i64 c.c, .int .i64 c.d, .bool c.plus], .int .i64 (e : Nat)]) := by
                refine (?_ : ciV L k = _)
                unfold ciV
                rw [hcr]
                simp only
                rw [hle]
              have hne : ((e : Int) == (k : Int)) = false := beq_eq_false_iff_ne.2 (by omega)
              have HB2A : Hid (∀ W : World, Calls Tryd.prog 24 #[.string ⟨L.toArray⟩, .int .i64 (e : Nat)] W fun x w' => x = .returned (.bool (blH (L.drop e))) ∧ w' = W) := blankAt_any L e
              cases hb3 : blH (L.drop e) with
              | false =>
                have HV : Hid (rdM L = (1, [], 0)) := HRN.out (by rw [← HRS.out, rs_bad HG9.out HBL.out HNO.out hcr (by rw [hre]; exact hb3)])
                rw [hb3] at HB2A
                clear hcr hre hle hb3
                go_upto_region 12 with (go_at_call 25; refine (crossIn_any L k _ (by omega) (by omega)).mono ?_; rw [HM1.out]; rintro e9 w5 ⟨rfl, hb5⟩; have HP5 : Hid (DgAt w acc m (.slice a3 acc.length c3) w5) := HP.out.up hb5; have r0 : w5.cell? ⟨w.heap.size, 0, none⟩ = some (.slice none 0 0) := block_cell HP5.out.rbox rfl; have r1 : w5.cell? ⟨w.heap.size, 1, none⟩ = some (.int .i64 0) := block_cell HP5.out.rbox rfl; have t0 : w5.frozen? ⟨w.heap.size, 0, none⟩ = false := block_frozen HP5.out.rbox; have t1 : w5.frozen? ⟨w.heap.size, 1, none⟩ = false := block_frozen HP5.out.rbox; have l5 : w.heap.size < w5.heap.size := Nat.lt_of_lt_of_le (Nat.lt_add_of_pos_right (by decide)) HP5.out.size; clear hb5)
                go_wp2_with (go_at_call 24; refine (HB2A.out _).mono ?_; rintro e9 w9 ⟨rfl, e99⟩; obtain rfl := e99.symm; clear e99)
                have hbe := ((HP5.out.bel.setCell (p := ⟨w.heap.size, 0, none⟩) (Nat.le_refl _) (.slice none 0 0)).setCell (p := ⟨w.heap.size, 1, none⟩) (Nat.le_refl _) (.int .i64 0))
                exact bodyPost_ret (v := .tuple #[.agg #[.slice none 0 0, .int .i64 0], .int .i64 1]) (res_dg (alloc_old (set_block (set_block HP5.out.rbox))) rfl rfl) rfl ⟨.slice none 0 0, by rw [HV.out]; rfl, by rw [HV.out]; exact crs_nil _, hbe.alloc (by simp; omega) _⟩
              | true =>
                have HR2 : Hid (rs (L.drop e) (acc ++ [c]) m = R) := (by rw [← HRS.out, rs_cross HG9.out HBL.out HNO.out (by rw [hcr, hre]) hke hb3] : rs (L.drop e) (acc ++ [c]) m = R)
                rw [hb3] at HB2A
                clear hcr hre hle hb3
                go_upto_region 12 with (go_at_call 25; refine (crossIn_any L k _ (by omega) (by omega)).mono ?_; rw [HM1.out]; rintro e9 w5 ⟨rfl, hb5⟩; have HP5 : Hid (DgAt w acc m (.slice a3 acc.length c3) w5) := HP.out.up hb5; have r0 : w5.cell? ⟨w.heap.size + 1, 0, none⟩ = some (.slice a3 acc.length c3) := block_cell HP5.out.dbox rfl; have l5 : w.heap.size + 2 ≤ w5.heap.size := HP5.out.size; have l6 : w.heap.size + 1 < w5.heap.size := HP5.out.size; clear hb5)
                go_upto_region 14 with (go_at_call 24; refine (HB2A.out _).mono ?_; rintro e9 w9 ⟨rfl, e99⟩; obtain rfl := e99.symm; clear e99)
                go_wp2_with (at_builtin; refine wpList_append_own _ rfl _ _ 35 rfl (w.heap.size + 2) 53 i0 (.agg #[.int .i64 0, .int .i64 0, .int .i64 0, .int .i64 0, .bool false]) 5 40 Tryd.underlying35 hi hz0 hz1 hz2 rfl (by decide) _ _ _ rfl ((HP5.out.row.alloc _).alloc _) ⟨w5.heap.size + 1, 0, none⟩ 1 1 [.int .i64 c.a, .int .i64 c.b, .int .i64 c.c, .int .i64 c.d, .bool c.plus] rfl rfl (new_cell5' (by simp) _ _ _ _ _ _) (fun u hu => cells_one [c] u (by simpa [crossCells] using hu)) (by unfold maxLen; omega) (by omega) (by simp; omega) ?_; intro v8 w8 hown8 hg8 _; obtain ⟨a8, c8, rfl⟩ := own_capS hown8; have HP8 : Hid (DgAt w (acc ++ [c]) m (.slice a8 (acc.length + 1) c8) (w8.setCell ⟨w.heap.size + 1, 0, none⟩ (.slice a8 (acc.length + 1) c8))) := HP5.out.push hown8 hg8; have hd8 : w8.heap[w.heap.size + 1]? = some (.cells #[.slice a3 acc.length c3, .int .i64 (m : Nat)] 37 (0, 0)) := (hg8.block _ (by simp; omega) (fun e => by have := (HP5.out.row.lt _ e.symm).1; omega)).trans (alloc_old (alloc_old HP5.out.dbox)); have d8 : w8.cell? ⟨w.heap.size + 1, 0, none⟩ = some (.slice a3 acc.length c3) := block_cell hd8 rfl; have g8 : w8.frozen? ⟨w.heap.size + 1, 0, none⟩ = false := block_frozen hd8; clear hown8 hg8 hd8)
                go_roundw
                case rel => exact ⟨e, m, acc ++ [c], a8, c8, heL, by omega, by simp; omega, by rfl, HR2, by simpa using HP8⟩
                case measure => simp only [intOf]; omega
      · have hkI : ¬ (k : Int) < (L.length : Int) := by omega
        have hR : R = some (acc, m) := by rw [← HRS.out, rs_end (by omega)]
        have HC2 : Hid (Crs W1 W1.heap.size (.slice a3 acc.length c3) acc) := crs_own HP.out.row (by unfold maxLen; omega)
        have d0 : W1.cell? ⟨w.heap.size + 1, 0, none⟩ = some (.slice a3 acc.length c3) := block_cell HP.out.dbox rfl
        have d1 : W1.cell? ⟨w.heap.size + 1, 1, none⟩ = some (.int .i64 (m : Nat)) := block_cell HP.out.dbox rfl
        cases hmy : mayD acc (m : Nat) with
        | false =>
          have HV : Hid (rdM L = (7, [], 0)) := (by rw [HRS0.out acc m hR, hmy]; rfl : rdM L = (7, [], 0))
          have HMY := hid_of hmy
          clear hmy hR
          go_wp2_with (go_at_call 26; refine (may17_any _ acc (m : Nat) _ HC2.out).mono ?_; rw [HMY.out]; rintro e9 w5 ⟨rfl, hb5⟩; have HP5 : Hid (DgAt w acc m (.slice a3 acc.length c3) w5) := HP.out.up hb5; have r0 : w5.cell? ⟨w.heap.size, 0, none⟩ = some (.slice none 0 0) := block_cell HP5.out.rbox rfl; have r1 : w5.cell? ⟨w.heap.size, 1, none⟩ = some (.int .i64 0) := block_cell HP5.out.rbox rfl; have t0 : w5.frozen? ⟨w.heap.size, 0, none⟩ = false := block_frozen HP5.out.rbox; have t1 : w5.frozen? ⟨w.heap.size, 1, none⟩ = false := block_frozen HP5.out.rbox; have l5 : w.heap.size < w5.heap.size := Nat.lt_of_lt_of_le (Nat.lt_add_of_pos_right (by decide)) HP5.out.size; clear hb5)
          have hbe := ((HP5.out.bel.setCell (p := ⟨w.heap.size, 0, none⟩) (Nat.le_refl _) (.slice none 0 0)).setCell (p := ⟨w.heap.size, 1, none⟩) (Nat.le_refl _) (.int .i64 0))
          exact bodyPost_ret (v := .tuple #[.agg #[.slice none 0 0, .int .i64 0], .int .i64 7]) (res_dg (set_block (set_block HP5.out.rbox)) rfl rfl) rfl ⟨.slice none 0 0, by rw [HV.out]; rfl, by rw [HV.out]; exact crs_nil _, hbe⟩
        | true =>
          have HV : Hid (rdM L = (0, acc, m)) := (by rw [HRS0.out acc m hR, hmy]; rfl : rdM L = (0, acc, m))
          have HMY := hid_of hmy
          clear hmy hR
          go_wp2_with (go_at_call 26; refine (may17_any _ acc (m : Nat) _ HC2.out).mono ?_; rw [HMY.out]; rintro e9 w5 ⟨rfl, hb5⟩; have HP5 : Hid (DgAt w acc m (.slice a3 acc.length c3) w5) := HP.out.up hb5; have r0 : w5.cell? ⟨w.heap.size, 0, none⟩ = some (.slice none 0 0) := block_cell HP5.out.rbox rfl; have r1 : w5.cell? ⟨w.heap.size, 1, none⟩ = some (.int .i64 0) := block_cell HP5.out.rbox rfl; have t0 : w5.frozen? ⟨w.heap.size, 0, none⟩ = false := block_frozen HP5.out.rbox; have t1 : w5.frozen? ⟨w.heap.size, 1, none⟩ = false := block_frozen HP5.out.rbox; have l5 : w.heap.size < w5.heap.size := Nat.lt_of_lt_of_le (Nat.lt_add_of_pos_right (by decide)) HP5.out.size; have q0 : w5.cell? ⟨w.heap.size + 1, 0, none⟩ = some (.slice a3 acc.length c3) := block_cell HP5.out.dbox rfl; have q1 : w5.cell? ⟨w.heap.size + 1, 1, none⟩ = some (.int .i64 (m : Nat)) := block_cell HP5.out.dbox rfl; clear hb5)
          have hbe := ((HP5.out.bel.setCell (p := ⟨w.heap.size, 0, none⟩) (Nat.le_refl _) (.slice a3 acc.length c3)).setCell (p := ⟨w.heap.size, 1, none⟩) (Nat.le_refl _) (.int .i64 (m : Nat)))
          have hk1 := HP5.out.row.kept (set_grown w5 w.heap.size 0 (.slice a3 acc.length c3)) (Or.inr (fun e => by have := (HP5.out.row.lt _ e).1; omega))
          have hk2 := hk1.kept (set_grown _ w.heap.size 1 (.int .i64 (m : Nat))) (Or.inr (fun e => by have := (hk1.lt _ e).1; omega))
          exact bodyPost_ret (v := .tuple #[.agg #[.slice a3 acc.length c3, .int .i64 (m : Nat)], .int .i64 0]) (res_dg (set_block (set_block HP5.out.rbox)) rfl rfl) rfl ⟨.slice a3 acc.length c3, by rw [HV.out], by rw [HV.out]; exact crs_own hk2 (by show acc.length ≤ maxLen; unfold maxLen; omega), hbe⟩
end Go.Proofs.YtlimfajjmhfnaaaDoor
