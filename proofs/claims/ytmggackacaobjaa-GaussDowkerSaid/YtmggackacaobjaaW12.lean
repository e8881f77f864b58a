/- The walk of ref.DowkerOf. -/
import Derived.Test.YtmggackacaobjaaW8
import Derived.Test.YtmggackacaobjaaW11
namespace Go.Proofs.Ytmggackacaobjaa
open Go.RowKit

theorem opp_len (x : Nat → Nat) (o : Nat → Bool) (i m : Nat) : (oppTo x o i m).length ≤ m := by
  induction m with
  | zero => exact Nat.le_refl _
  | succ m ih =>
    simp only [oppTo, List.length_append]
    split <;> simp <;> omega
theorem ref_len (x : Nat → Nat) (o : Nat → Bool) (n i : Nat) : (refTo x o n i).length ≤ i * n := by
  induction i with
  | zero => simp [refTo]
  | succ i ih =>
    have := opp_len x o i n
    simp only [refTo, List.length_append]
    rw [Nat.add_mul]
    omega
theorem cp_congr {x y : Nat → Nat} (c r m : Nat) (h : ∀ p, p < m → x p = y p) : cp x c r m = cp y c r m := by
  induction m with
  | zero => rfl
  | succ m ih =>
    simp only [cp]
    rw [ih fun p hp => h p (by omega), h m (by omega)]
/-- The visits of a knot: as many as there are sides to come to; each crossing has two. -/
theorem knot_visits {C : List Cr} {loops : Int} (hm : mayD C loops = true) {wk : List Nat} (h : walksM C = [wk]) : (visL C wk).length = 2 * C.length ∧ 0 < C.length ∧ (∀ p, p < 2 * C.length → vX (visL C wk) p < C.length) ∧ ∀ c, c < C.length → cp (vX (visL C wk)) c 0 (2 * C.length) + cp (vX (visL C wk)) c 1 (2 * C.length) = 2 := by
  obtain ⟨h1, h2, h3⟩ := knot_walk hm h
  have hX : ∀ p, p < 2 * C.length → vX (visL C wk) p = toC C (wk.getD p 0) := by
    intro p hp
    unfold vX visL
    rw [List.getD_eq_getElem?_getD, List.getElem?_map, List.getD_eq_getElem?_getD, List.getElem?_eq_getElem (by omega)]
    rfl
  have hp0 : 0 < wk.length := by
    have := (walksM_facts hm).2 0 (by rw [h]; simp)
    rw [h] at this
    simpa using this.1
  refine ⟨by simp [visL, h1], by omega, fun p hp => ?_, fun c hc => ?_⟩
  · rw [hX p hp]
    exact (to_may hm _ (h2 p (by omega)).1 (h2 p (by omega)).2).2.1
  · rw [cp_congr c 0 _ hX, cp_congr c 1 _ hX]
    exact h3 c hc

/-- What ref.DowkerOf answers. -/
def DowPost (w : World) (C : List Cr) (loops : Int) (e : Ending) (w' : World) : Prop := Below w.heap.size w w' ∧
  ((((walksM C).length ≠ 1 ∨ 0 < loops) ∧ e = .returned (.tuple #[.slice none 0 0, .int .i64 9])) ∨
   (∃ wk, walksM C = [wk] ∧ loops ≤ 0 ∧ ((¬ plane (vX (visL C wk)) C.length ∧ e = .returned (.tuple #[.slice none 0 0, .int .i64 5])) ∨
     (plane (vX (visL C wk)) C.length ∧ ∃ r, e = .returned (.tuple #[r, .int .i64 0]) ∧ w'.ownsRow w.heap.size 3 1 r (refTo (vX (visL C wk)) (vO (visL C wk)) C.length C.length).length (intsV (refTo (vX (visL C wk)) (vO (visL C wk)) C.length C.length))))))

set_option maxHeartbeats 8000000 in
set_option maxRecDepth 100000 in
theorem dowkerOf_any (a : Option Addr) (cap : Nat) (C : List Cr) (loops : Int) (w : World) (hm : mayD C loops = true) (hD : Crs w w.heap.size (.slice a C.length cap) C) :
    Calls Try.prog 32 #[.agg #[.slice a C.length cap, .int .i64 loops]] w (DowPost w C loops) := by
  obtain ⟨s1, -, -, -⟩ := sizeB_iff (may_size hm)
  obtain ⟨i0, hi, hz0, hz1, hz2⟩ := info_parts infoInt
  have HM : Hid (mayD C loops = true) := hm
  have HD : Hid (Crs w w.heap.size (.slice a C.length cap) C) := hD
  clear hm hD
  obtain ⟨w0, hw0⟩ : ∃ w0, w0 = w.alloc (.cells #[.slice a C.length cap, .int .i64 loops] 24) := ⟨_, rfl⟩
  have HW0 : Hid (w0 = w.alloc (.cells #[.slice a C.length cap, .int .i64 loops] 24)) := hw0
  have hs0 : w0.heap.size = w.heap.size + 1 := by rw [hw0]; simp
  have HB0 : Hid (Below w.heap.size w w0) := (by rw [hw0]; exact (Below.refl _ _).alloc (Nat.le_refl _) _ : Below w.heap.size w w0)
  have HT0 : Hid (w0.heap[w.heap.size]? = some (.cells #[.slice a C.length cap, .int .i64 loops] 24 (0, 0))) := (by rw [hw0]; exact alloc_at rfl : w0.heap[w.heap.size]? = some (.cells #[.slice a C.length cap, .int .i64 loops] 24 (0, 0)))
  have HD0 : Hid (Crs w0 w0.heap.size (.slice a C.length cap) C) := HD.out.up HB0.out
  clear hw0
  go_enter Try.func32, Try.ntmps32
  go_wp2_with (go_at_call 25; rw [← HW0.out]; refine (visitsOf_any a cap C loops _ HM.out HD0.out).mono ?_; rintro e9 w2 ⟨v1, v2, rfl, hv1, hv2, hb2⟩; refine Hid.out ?_)
  refine Lib.hid ?_
  have HV1 : Hid (VsAt w2 v1 (visM C)) := hv1.vs
  have hpl : (plusM C).length = C.length := by simp [plusM]
  have HB2 : Hid (Below w.heap.size w w2) := HB0.out.trans (hb2.mono HB0.out.size)
  have HT2 : Hid (w2.heap[w.heap.size]? = some (.cells #[.slice a C.length cap, .int .i64 loops] 24 (0, 0))) := (hb2.block _ (by omega)).trans HT0.out
  have hs2 : w.heap.size + 1 ≤ w2.heap.size := by have := hb2.size; omega
  obtain ⟨a2, c2, rfl⟩ := own_capS hv2
  rw [hpl]
  clear hv1 hv2 hb2 HT0 HD0 HB0
  obtain ⟨ys, hyl, ⟨a1, c1, rfl, g1⟩, hvs⟩ := HV1.out
  have hvl : (visM C).length = (walksM C).length := by simp [visM]
  rw [hvl] at hyl
  rw [hyl] at g1 ⊢
  have p1 : w2.cell? ⟨w.heap.size, 1, none⟩ = some (.int .i64 loops) := block_cell HT2.out rfl
  have hlt0 : w.heap.size < w2.heap.size := by omega
  by_cases hone : (walksM C).length = 1
  · obtain ⟨wk, hwk⟩ : ∃ wk, walksM C = [wk] := by
      match h : walksM C, hone with
      | [wk], _ => exact ⟨wk, rfl⟩
    have HWK : Hid (walksM C = [wk]) := hwk
    obtain ⟨hVl, hpos, hXl, -⟩ := knot_visits HM.out hwk
    have hvm : visM C = [visL C wk] := by unfold visM; rw [hwk]; rfl
    have HVS : Hid (VS w2 (ys.getD 0 (.bool false)) (visL C wk)) := (by have := hvs 0 (by rw [hvm]; simp); rw [hvm] at this; exact this : VS w2 (ys.getD 0 (.bool false)) (visL C wk))
    have HG1 : Hid (∃ b off, a1 = some ⟨b, off, none⟩ ∧ b < w2.heap.size ∧ w2.cell? ⟨b, off + 0, none⟩ = some (ys.getD 0 (.bool false))) := (by
      obtain ⟨b, off, e, h1, h2⟩ := g1 (by omega)
      exact ⟨b, off, e, h1, h2 0 (by omega)⟩ : ∃ b off, a1 = some ⟨b, off, none⟩ ∧ b < w2.heap.size ∧ w2.cell? ⟨b, off + 0, none⟩ = some (ys.getD 0 (.bool false)))
    rw [hone]
    clear hvm hvs g1 hyl hvl hone hwk HV1
    by_cases hlp : 0 < loops
    · have hd : decide (0 < loops) = true := by simpa using hlp
      go_wp2
      go_ret2
      exact ⟨HB2.out, Or.inl ⟨Or.inr hlp, rfl⟩⟩
    · have hd : decide (0 < loops) = false := by simpa using hlp
      obtain ⟨b1, o1, rfl, hb1, hc1⟩ := HG1.out
      obtain ⟨av, cv, hev, gv⟩ := HVS.out
      rw [hev] at hc1
      obtain ⟨bv, ov, rfl, hbv, hcv⟩ := gv (by omega)
      have hc1' : w2.cell? ⟨b1, o1, none⟩ = some (.slice (some ⟨bv, ov, none⟩) (visL C wk).length cv) := hc1
      have HC : Hid (∀ p, p < 2 * C.length → w2.cell? ⟨bv, ov + p * 2, none⟩ = some (.int .i64 (vX (visL C wk) p : Nat)) ∧ w2.cell? ⟨bv, ov + p * 2 + 1, none⟩ = some (.bool (vO (visL C wk) p))) := fun p hp => hcv p (by omega)
      clear hcv gv hev HVS HG1 hc1 HT2
      have HPOST : Hid (∀ (e : Ending) (w' : World), Below w.heap.size w w' → ((¬ plane (vX (visL C wk)) C.length ∧ e = .returned (.tuple #[.slice none 0 0, .int .i64 5])) ∨ (plane (vX (visL C wk)) C.length ∧ ∃ r, e = .returned (.tuple #[r, .int .i64 0]) ∧ w'.ownsRow w.heap.size 3 1 r (refTo (vX (visL C wk)) (vO (visL C wk)) C.length C.length).length (intsV (refTo (vX (visL C wk)) (vO (visL C wk)) C.length C.length)))) → DowPost w C loops e w') := fun e w' hb h => ⟨hb, Or.inr ⟨wk, HWK.out, by omega, h⟩⟩
      generalize hvx : vX (visL C wk) = X at HC HPOST hXl
      generalize hvo : vO (visL C wk) = O at HC HPOST
      generalize (visL C wk).length = vl at hc1' hVl
      clear hvx hvo
      obtain ⟨n, hn⟩ : ∃ n, C.length = n := ⟨_, rfl⟩
      rw [hn] at s1 hpos hVl HC hXl HPOST ⊢
      clear hn
      have HVL : Hid (vl = 2 * n) := hVl
      have hvb : vl ≤ 32 := by omega
      clear hVl
      have d1 : w2.cell? ⟨b1, o1, none⟩ = some (.slice (some ⟨bv, ov, none⟩) vl cv) := hc1'
      go_wp2
      clear d1 p1 hc1' hd
      go_loopw [8] (fun v8 wr => ∃ i : Nat, i ≤ vl ∧ v8 = .int .i64 (i : Nat) ∧ Hid (∀ i' k', i' < i → k' < 2 * n → k' ≠ i' → X k' = X i' → k' % 2 ≠ i' % 2) ∧ Below w2.heap.size w2 wr) (fun v8 _ => vl - (intOf v8).toNat)
      case atStart => exact ⟨0, Nat.zero_le _, rfl, fun i' k' h => absurd h (Nat.not_lt_zero _), Below.refl _ _⟩
      case round =>
        rename World => W1
        obtain ⟨i, hil, rfl, hno, hb⟩ := hrel
        have hszW := hb.size
        by_cases hlt : i < vl
        · have hdi : decide ((i : Int) < (vl : Int)) = true := by simp; omega
          have hdi2 : decide (i < vl) = true := by simp; omega
          go_wp2
          go_loopw [9] (fun v9 ws => ∃ k : Nat, k ≤ vl ∧ v9 = .int .i64 (k : Nat) ∧ Hid (∀ k', k' < k → k' ≠ i → X k' = X i → k' % 2 ≠ i % 2) ∧ Below w2.heap.size w2 ws) (fun v9 _ => vl - (intOf v9).toNat)
          case atStart => exact ⟨0, Nat.zero_le _, rfl, fun k' h => absurd h (Nat.not_lt_zero _), hb⟩
          case round =>
            clear hb
            rename World => W3
            obtain ⟨k, hkl, rfl, hnk, hb⟩ := hrel
            have hszY := hb.size
            by_cases hltk : k < vl
            · have hdk : decide ((k : Int) < (vl : Int)) = true := by simp; omega
              have hdk2 : decide (k < vl) = true := by simp; omega
              have hbv3 : bv < W3.heap.size := by omega
              have t1 := bcell hb hbv (HC.out k (by have := HVL.out; omega)).1
              have t2 := bcell hb hbv (HC.out i (by have := HVL.out; omega)).1
              have n0 : (0 : Int) ≤ (k : Int) := by omega
              have n1 : (k : Int) < (vl : Int) := by omega
              have n2 : (0 : Int) ≤ (i : Int) := by omega
              have n3 : (i : Int) < (vl : Int) := by omega
              by_cases hki : k = i
              · have g1 : ((k : Int) != (i : Int)) = false := by rw [hki]; simp
                go_wp2
                go_quiet (fail)
                go_wp2
                go_roundw
                case rel =>
                  refine ⟨k + 1, by omega, by go_num, fun k' hk' => ?_, below_drewN hb _⟩
                  by_cases e : k' = k
                  · intro h; omega
                  · exact hnk.out k' (by omega)
                case measure => simp only [intOf]; omega
              · have g1 : ((k : Int) != (i : Int)) = true := by rw [bne_iff_ne]; omega
                by_cases hxx : X k = X i
                · have HXX : Hid (X k = X i) := hxx
                  rw [hxx] at t1
                  obtain ⟨z, hz⟩ : ∃ z, X i = z := ⟨_, rfl⟩
                  rw [hz] at t1 t2
                  clear hz hxx
                  have g2 : ((z : Int) == (z : Int)) = true := by simp
                  have hw : IntKind.i64.wrap ((k : Int) - (i : Int)) = (k : Int) - (i : Int) := IntWalk.i64_in _ (by omega)
                  have ht := tmod2 ((k : Int) - (i : Int))
                  by_cases hpar : k % 2 = i % 2
                  · rw [show decide (((k : Int) - (i : Int)) % 2 = 0) = true by simp; omega] at ht
                    go_wp2
                    go_quiet (fail)
                    go_wp2
                    go_ret2
                    refine HPOST.out _ _ ?_ ?_
                    · exact HB2.out.trans ((below_drewN hb _).mono HB2.out.size)
                    · exact Or.inl ⟨fun hpp => hpp i k (by have := HVL.out; omega) (by have := HVL.out; omega) hki HXX.out hpar, rfl⟩
                  · rw [show decide (((k : Int) - (i : Int)) % 2 = 0) = false by simp; omega] at ht
                    go_wp2
                    go_quiet (fail)
                    go_wp2
                    go_roundw
                    case rel =>
                      refine ⟨k + 1, by omega, by go_num, fun k' hk' => ?_, below_drewN hb _⟩
                      by_cases e : k' = k
                      · intro _ _; rw [e]; exact hpar
                      · exact hnk.out k' (by omega)
                    case measure => simp only [intOf]; omega
                · have g2 : ((X k : Int) == (X i : Int)) = false := by rw [beq_eq_false_iff_ne]; omega
                  go_wp2
                  go_quiet (fail)
                  go_wp2
                  go_roundw
                  case rel =>
                    refine ⟨k + 1, by omega, by go_num, fun k' hk' => ?_, below_drewN hb _⟩
                    by_cases e : k' = k
                    · intro _ h; rw [e] at h; exact absurd h hxx
                    · exact hnk.out k' (by omega)
                  case measure => simp only [intOf]; omega
            · obtain rfl : k = vl := by omega
              go_wp2
              go_roundw
              case rel =>
                refine ⟨i + 1, by omega, by go_num, fun i' k' hi' hk' => ?_, hb⟩
                by_cases e : i' = i
                · rw [e]; exact hnk.out k' (by have := HVL.out; omega)
                · exact hno.out i' k' (by omega) hk'
              case measure => simp only [intOf]; omega
        · obtain rfl : i = vl := by omega
          have HPL : Hid (plane X n) := (fun i' k' h1 h2 h3 h4 => hno.out i' k' (by have := HVL.out; omega) h2 h3 h4 : plane X n)
          have hdi : decide ((i : Int) < (i : Int)) = false := by simp
          go_wp2
          go_loopw [6, 10] (fun v6 v10 ws => ∃ (t od : Nat) (acc : List Int), t ≤ n ∧ Hid (od = 2 * t + 1) ∧ v10 = .int .i64 (od : Nat) ∧ Hid (acc = refTo X O n t) ∧ ws.ownsRow w2.heap.size 3 1 v6 acc.length (intsV acc) ∧ Below w2.heap.size w2 ws) (fun _ v10 _ => 2 * n + 2 - (intOf v10).toNat)
          case atStart => exact ⟨0, 1, [], Nat.zero_le _, (rfl : 1 = 2 * 0 + 1), rfl, (rfl : [] = refTo X O n 0), World.ownsRow_nil _ _ _ _, hb⟩
          case round =>
            clear hb
            rename World => W3
            obtain ⟨t, od, acc, htn, hod, rfl, hacc, hrow, hb⟩ := hrel
            have hszY := hb.size
            by_cases hltt : t < n
            · have hod1 : 1 ≤ od := by have := hod.out; omega
              have hod2 : od ≤ 2 * n := by have := hod.out; omega
              have hdo : decide ((od : Int) ≤ 2 * (n : Int)) = true := by simp; omega
              have hdo2 : decide (od ≤ 2 * n) = true := by simp; omega
              have hal0 : acc.length ≤ 400 := by
                have h1 := ref_len X O n t
                rw [hacc.out]
                have : t * n ≤ 16 * 16 := Nat.mul_le_mul (by omega) s1
                omega
              go_wp2
              go_loopw [6, 11] (fun v6 v11 ws => ∃ (j ev : Nat) (acc : List Int), j ≤ n ∧ Hid (ev = 2 * j + 2) ∧ v11 = .int .i64 (ev : Nat) ∧ Hid (acc = refTo X O n t ++ oppTo X O t j) ∧ ws.ownsRow w2.heap.size 3 1 v6 acc.length (intsV acc) ∧ Below w2.heap.size w2 ws) (fun _ v11 _ => 2 * n + 4 - (intOf v11).toNat)
              case atStart => exact ⟨0, 2, acc, Nat.zero_le _, (rfl : 2 = 2 * 0 + 2), rfl, (by rw [hacc.out]; simp [oppTo] : acc = refTo X O n t ++ oppTo X O t 0), hrow, hb⟩
              case round =>
                clear hb hrow hacc hal0
                clear acc
                rename World => W5
                obtain ⟨j, ev, acc, hjn, hev, rfl, hacc, hrow, hb⟩ := hrel
                have hszZ := hb.size
                obtain ⟨a6, c6, rfl⟩ := own_capS hrow
                by_cases hltj : j < n
                · have hal : acc.length ≤ 400 := by
                    have h1 := ref_len X O n t
                    have h2 := opp_len X O t j
                    rw [hacc.out, List.length_append]
                    have : t * n ≤ 16 * 16 := Nat.mul_le_mul (by omega) s1
                    omega
                  have hev1 : 2 ≤ ev := by have := hev.out; omega
                  have hev2 : ev ≤ 2 * n := by have := hev.out; omega
                  have hde : decide ((ev : Int) ≤ 2 * (n : Int)) = true := by simp; omega
                  have hde2 : decide (ev ≤ 2 * n) = true := by simp; omega
                  obtain ⟨pe, hpe⟩ : ∃ pe : Nat, pe + 1 = ev := ⟨ev - 1, by omega⟩
                  obtain ⟨po, hpo⟩ : ∃ po : Nat, po + 1 = od := ⟨od - 1, by omega⟩
                  have hwe : IntKind.i64.wrap ((ev : Int) - 1) = (pe : Int) := by rw [show (ev : Int) - 1 = (pe : Int) by omega]; exact IntWalk.i64_in _ (by omega)
                  have hwo : IntKind.i64.wrap ((od : Int) - 1) = (po : Int) := by rw [show (od : Int) - 1 = (po : Int) by omega]; exact IntWalk.i64_in _ (by omega)
                  have HPE : Hid (pe = 2 * j + 1) := (by have := hev.out; omega : pe = 2 * j + 1)
                  have HPO : Hid (po = 2 * t) := (by have := hod.out; omega : po = 2 * t)
                  have hbv3 : bv < W5.heap.size := by omega
                  have t1 := bcell hb hbv (HC.out pe (by omega)).1
                  have t2 := bcell hb hbv (HC.out po (by omega)).1
                  have t3 := bcell hb hbv (HC.out pe (by omega)).2
                  have n0 : (0 : Int) ≤ (pe : Int) := by omega
                  have n1 : (pe : Int) < (i : Int) := by have := HVL.out; omega
                  have n2 : (0 : Int) ≤ (po : Int) := by omega
                  have n3 : (po : Int) < (i : Int) := by have := HVL.out; omega
                  have n4 : pe < i := by have := HVL.out; omega
                  have n5 : po < i := by have := HVL.out; omega
                  have HON : Hid (oppTo X O t (j + 1) = oppTo X O t j ++ (if X pe = X po then [evN O j] else [])) := (by rw [HPE.out, HPO.out]; rfl : oppTo X O t (j + 1) = oppTo X O t j ++ (if X pe = X po then [evN O j] else []))
                  have HEV : Hid (evN O j = if O pe = true then -(ev : Int) else (ev : Int)) := (by
                    unfold evN
                    rw [← HPE.out]
                    have e : ((2 * j + 2 : Nat) : Int) = (ev : Int) := by have := hev.out; omega
                    rw [e] : evN O j = if O pe = true then -(ev : Int) else (ev : Int))
                  have HRX : Hid (W5.ownsRow w2.heap.size 3 1 (.slice a6 acc.length c6) acc.length (intsV acc)) := hrow
                  clear hrow hpe hpo
                  by_cases hxx : X pe = X po
                  · rw [if_pos hxx] at HON
                    rw [hxx] at t1
                    generalize X po = z at t1 t2 hxx
                    have g2 : ((z : Int) == (z : Int)) = true := by simp
                    cases hO : O pe with
                    | true =>
                      rw [hO] at t3 HEV
                      simp only [if_true] at HEV
                      rw [HEV.out] at HON
                      go_wp2
                      go_quiet (fail)
                      go_wp2_with (first
                        | (at_builtin; refine wpList_append_own _ rfl _ _ 37 rfl w2.heap.size 3 i0 (.int .i64 0) 1 8 Try.underlying37 hi hz0 hz1 hz2 rfl (by decide) _ _ _ rfl ((own_any HRX.out (grown_below (below_drewN (Below.refl _ _) _) none)).alloc _) ⟨W5.heap.size, 0, none⟩ 1 1 [.int .i64 (-(ev : Int))] rfl rfl (new_cell1 _ _ _) (int_one _) (by unfold maxLen; omega) (by omega) (by simp; omega) ?_; intro v8 w8 hown8 hg8 _; go_frame))
                      go_roundw
                      case rel =>
                        have hR := (own_any HRX.out (grown_below (below_drewN (Below.refl _ _) 1) none)).alloc (.cells #[.int .i64 (-(ev : Int))] 3)
                        refine ⟨j + 1, ev + 2, acc ++ [-(ev : Int)], by omega, (by have := hev.out; omega : ev + 2 = 2 * (j + 1) + 2), by go_num, (by rw [HON.out, hacc.out, List.append_assoc] : acc ++ [-(ev : Int)] = refTo X O n t ++ oppTo X O t (j + 1)), by rw [List.length_append, intsV_app]; exact hown8, ((below_drewN hb _).alloc hszZ _).grown hg8 (by simp; omega) (fun q hq => (hR.lt q hq).1)⟩
                      case measure => simp only [intOf]; omega
                    | false =>
                      rw [hO] at t3 HEV
                      simp only [Bool.false_eq_true, if_false] at HEV
                      rw [HEV.out] at HON
                      go_wp2
                      go_quiet (fail)
                      go_wp2_with (first
                        | (at_builtin; refine wpList_append_own _ rfl _ _ 37 rfl w2.heap.size 3 i0 (.int .i64 0) 1 8 Try.underlying37 hi hz0 hz1 hz2 rfl (by decide) _ _ _ rfl ((own_any HRX.out (grown_below (below_drewN (Below.refl _ _) _) none)).alloc _) ⟨W5.heap.size, 0, none⟩ 1 1 [.int .i64 (ev : Nat)] rfl rfl (new_cell1 _ _ _) (int_one _) (by unfold maxLen; omega) (by omega) (by simp; omega) ?_; intro v8 w8 hown8 hg8 _; go_frame))
                      go_roundw
                      case rel =>
                        have hR := (own_any HRX.out (grown_below (below_drewN (Below.refl _ _) 1) none)).alloc (.cells #[.int .i64 (ev : Nat)] 3)
                        refine ⟨j + 1, ev + 2, acc ++ [(ev : Int)], by omega, (by have := hev.out; omega : ev + 2 = 2 * (j + 1) + 2), by go_num, (by rw [HON.out, hacc.out, List.append_assoc] : acc ++ [(ev : Int)] = refTo X O n t ++ oppTo X O t (j + 1)), by rw [List.length_append, intsV_app]; exact hown8, ((below_drewN hb _).alloc hszZ _).grown hg8 (by simp; omega) (fun q hq => (hR.lt q hq).1)⟩
                      case measure => simp only [intOf]; omega
                  · rw [if_neg hxx, List.append_nil] at HON
                    have g2 : ((X pe : Int) == (X po : Int)) = false := by rw [beq_eq_false_iff_ne]; omega
                    go_wp2
                    go_quiet (fail)
                    go_wp2
                    go_roundw
                    case rel => exact ⟨j + 1, ev + 2, acc, by omega, (by have := hev.out; omega : ev + 2 = 2 * (j + 1) + 2), by go_num, (by rw [HON.out]; exact hacc.out : acc = refTo X O n t ++ oppTo X O t (j + 1)), own_any HRX.out (grown_below (below_drewN (Below.refl _ _) _) none), below_drewN hb _⟩
                    case measure => simp only [intOf]; omega
                · obtain rfl : j = n := by omega
                  have hde : decide ((ev : Int) ≤ 2 * (j : Int)) = false := by have := hev.out; simp; omega
                  have hde2 : decide (ev ≤ 2 * j) = false := by have := hev.out; simp; omega
                  go_wp2
                  go_roundw
                  case rel => exact ⟨t + 1, od + 2, acc, by omega, (by have := hod.out; omega : od + 2 = 2 * (t + 1) + 1), by go_num, (hacc.out : acc = refTo X O j (t + 1)), hrow, hb⟩
                  case measure => simp only [intOf]; omega
            · obtain rfl : t = n := by omega
              have hdo : decide ((od : Int) ≤ 2 * (t : Int)) = false := by have := hod.out; simp; omega
              have hdo2 : decide (od ≤ 2 * t) = false := by have := hod.out; simp; omega
              go_wp2
              go_ret2
              refine HPOST.out _ _ ?_ ?_
              · exact HB2.out.trans (hb.mono HB2.out.size)
              · refine Or.inr ⟨HPL.out, _, rfl, ?_⟩
                rw [← hacc.out]
                exact own_low hrow (by omega)
  · have hd : (((walksM C).length : Int) != 1) = true := by rw [bne_iff_ne]; omega
    have HONE : Hid (¬ (walksM C).length = 1) := hone
    generalize (walksM C).length = m at hd hone
    go_wp2
    go_ret2
    exact ⟨HB2.out, Or.inl ⟨Or.inl HONE.out, rfl⟩⟩
end Go.Proofs.Ytmggackacaobjaa
