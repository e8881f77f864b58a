/- The walks of colour.overpasses and colour.Overs. -/
import Derived.Test.YtnhllpaoplfgpaaO2
namespace Go.Proofs.Ytnhllpaoplfgpaa
open Go.RowKit

/-- The overpasses of arcs below k; what stands first tells of none. -/
def ovTo (C : List Cr) (k : Nat) : List Nat := (List.range (2 * C.length + 1)).map fun v => if v < k ∧ 1 ≤ v then ovM C v else 0
theorem ovTo_len (C : List Cr) (k : Nat) : (ovTo C k).length = 2 * C.length + 1 := by simp [ovTo]
theorem ovTo_at (C : List Cr) (k v : Nat) (hv : v < 2 * C.length + 1) : (ovTo C k).getD v 0 = if v < k ∧ 1 ≤ v then ovM C v else 0 := by simp [ovTo, List.getD_eq_getElem?_getD, hv]
theorem ovTo_zero (C : List Cr) : List.replicate (2 * C.length + 1) 0 = ovTo C 1 := by
  refine List.ext_getElem (by simp [ovTo]) fun j h1 h2 => ?_
  simp only [ovTo, List.getElem_map, List.getElem_range, List.getElem_replicate]
  rw [if_neg (by omega)]
theorem ovTo_next (C : List Cr) (k z : Nat) (hk : k < 2 * C.length + 1) (h1 : 1 ≤ k) (hz : ovM C k = z) : (ovTo C k).set k z = ovTo C (k + 1) := getD_ext (by simp [ovTo_len]) fun v hv => by
  have hv' : v < 2 * C.length + 1 := by simpa [ovTo_len] using hv
  rw [getD_set _ _ _ _ (by rw [ovTo_len]; exact hk), ovTo_at _ _ _ hv', ovTo_at _ _ _ hv']
  by_cases e : v = k
  · subst e; rw [if_pos rfl, if_pos ⟨by omega, h1⟩, hz]
  · rw [if_neg e]
    by_cases h2 : v < k ∧ 1 ≤ v
    · rw [if_pos h2, if_pos ⟨by omega, h2.2⟩]
    · rw [if_neg h2, if_neg (fun q => h2 ⟨by omega, q.2⟩)]
theorem ovTo_drop (C : List Cr) : (ovTo C (2 * C.length + 1)).drop 1 = ovL C (2 * C.length) := by
  refine List.ext_getElem (by simp [ovTo, ovL]) fun j h1 h2 => ?_
  simp only [List.getElem_drop, ovTo, ovL, List.getElem_map, List.getElem_range]
  rw [if_pos ⟨by have : j < 2 * C.length := by simpa [ovL] using h2
                 omega, by omega⟩, Nat.add_comm]

set_option maxHeartbeats 16000000 in
set_option maxRecDepth 100000 in
theorem overpasses_any (a : Option Addr) (cap : Nat) (C : List Cr) (loops : Int) (gF cF gT cT : Nat) (w : World) (hm : mayD C loops = true) (hD : Dr w a cap C gF gT) :
    Calls Try.prog 128 #[drV a cap C loops gF cF gT cT] w fun e w' => ∃ g, e = .returned (.tuple #[.slice (some ⟨g, 0, none⟩) (2 * C.length + 1) (2 * C.length + 1), .int .i64 (ovC C : Nat)]) ∧ w'.ownsRow w.heap.size 3 1 (.slice (some ⟨g, 0, none⟩) (2 * C.length + 1) (2 * C.length + 1)) (2 * C.length + 1) (nats (ovTo C (2 * C.length + 1))) ∧ Below w.heap.size w w' := by
  obtain ⟨s1, -, -, -⟩ := sizeB_iff (may_size hm)
  obtain ⟨i2, hk, hx0, hx1, hx2⟩ := info_parts infoInt
  have HM : Hid (mayD C loops = true) := hm
  have HD : Hid (Dr w a cap C gF gT) := hD
  have HLS : Hid (Least (ovE C) (2 * C.length + 1) (lowM C)) := lowM_least (ovE_lt hm)
  have HCV : Hid (ovC C = rootsN (lowM C) (2 * C.length + 1)) := (rfl : ovC C = rootsN (lowM C) (2 * C.length + 1))
  have HLP : Hid (∀ v, 1 ≤ v → v < 2 * C.length + 1 → 1 ≤ (lowM C).getD v 0) := fun v h1 h2 => HLS.out.pos (fun e he => ⟨(ovE_in HM.out e he).1.1, (ovE_in HM.out e he).2.1⟩) h2 h1
  have HZ0 : Hid (List.replicate (2 * C.length + 1) 0 = ovTo C 1) := ovTo_zero C
  have HB0 : Hid (Below w.heap.size w (w.alloc (.cells #[.slice a C.length cap, .int .i64 loops, .slice (some ⟨gF, 0, none⟩) (2 * C.length + 1) cF, .slice (some ⟨gT, 0, none⟩) (2 * C.length + 1) cT] 120))) := (Below.refl _ _).alloc (Nat.le_refl _) _
  unfold drV
  obtain ⟨N, hN⟩ : ∃ N, N = 2 * C.length + 1 := ⟨_, rfl⟩
  have HN : Hid (N = 2 * C.length + 1) := hN
  have hN1 : 1 ≤ N := by omega
  have hN2 : N ≤ 33 := by omega
  have HLA : Hid (∀ W, Dr W a cap C gF gT → Calls Try.prog 177 #[.agg #[.slice a C.length cap, .int .i64 loops, .slice (some ⟨gF, 0, none⟩) N cF, .slice (some ⟨gT, 0, none⟩) N cT]] W fun e w' => ∃ g, e = .returned (.slice (some ⟨g, 0, none⟩) N N) ∧ w'.ownsRow W.heap.size 3 1 (.slice (some ⟨g, 0, none⟩) N N) N (nats (lowM C)) ∧ Below W.heap.size W w') := fun W hW => by rw [hN]; exact lowestArcs_any a cap C loops gF cF gT cT W HM.out hW
  rw [← hN] at HLS HCV HLP HZ0 HB0 ⊢
  rw [HCV.out]
  clear hm hD hN
  go_enter Try.func128, Try.ntmps128
  go_wp2_with (go_at_call 177; refine (HLA.out _ (HD.out.on HB0.out)).mono ?_; rintro e9 w1 ⟨g, rfl, hr1, hb1⟩; refine Hid.out ?_)
  refine Lib.hid ?_
  have hs1 : w.heap.size + 1 ≤ w1.heap.size := by have := hb1.size; simpa using this
  have hg1 : w.heap.size + 1 ≤ g ∧ g < w1.heap.size := by have := hr1.lt g rfl; simpa using this
  have HR1 : Hid (w1.ownsRow (w.heap.size + 1) 3 1 (.slice (some ⟨g, 0, none⟩) N N) N (nats (lowM C)) ∧ Below w.heap.size w w1) := ⟨own_low hr1 (by simp), HB0.out.trans (hb1.mono (by simp))⟩
  clear hr1 hb1
  go_wp2_with (first | (at_make; refine wpList_make_full _ rfl _ _ 61 rfl w1.heap.size 3 i2 (.int .i64 0) 1 Try.underlying61 hk hx0 hx1 .i64 .i64 _ _ N rfl rfl rfl rfl (by rw [hx2]; omega) (by unfold maxLen; omega) (by omega) ?_; intro w2 hrow hg2; refine Hid.out ?_))
  refine Lib.hid ?_
  rw [made_zeroN, HZ0.out] at hrow
  have HP0 : Hid (w2.ownsRow (w.heap.size + 1) 3 1 (.slice (some ⟨g, 0, none⟩) N N) N (nats (lowM C)) ∧ w2.ownsRow w1.heap.size 3 1 (.slice (some ⟨w1.heap.size, 0, none⟩) N N) N (nats (ovTo C 1)) ∧ Below w.heap.size w w2) := ⟨own_any HR1.out.1 hg2, hrow, HR1.out.2.grown hg2 HR1.out.2.size (fun q hq => by cases hq)⟩
  clear hrow hg2 HR1
  go_wp2
  go_loopw [3, 5] (fun v3 v5 wr => ∃ j : Nat, 1 ≤ j ∧ j ≤ N ∧ v5 = .int .i64 (j : Nat) ∧ v3 = .int .i64 (rootsN (lowM C) j : Nat) ∧ Hid (wr.ownsRow (w.heap.size + 1) 3 1 (.slice (some ⟨g, 0, none⟩) N N) N (nats (lowM C)) ∧ wr.ownsRow w1.heap.size 3 1 (.slice (some ⟨w1.heap.size, 0, none⟩) N N) N (nats (ovTo C j)) ∧ Below w.heap.size w wr)) (fun _ v5 _ => N - (intOf v5).toNat)
  case atStart => exact ⟨1, Nat.le_refl _, hN1, rfl, (by simp [rootsN]), HP0.out⟩
  case round =>
    clear HP0
    rename World => W1
    obtain ⟨j, hj1, hjn, rfl, rfl, hp⟩ := hrel
    have hlt := (hp.out.2.1.lt w1.heap.size rfl).2
    have hr1 := rootsN_le (lowM C) j
    by_cases hjl : j < N
    · obtain ⟨q, hq⟩ : ∃ q, (lowM C).getD j 0 = q := ⟨_, rfl⟩
      have hqj : q ≤ j := by rw [← hq]; exact HLS.out.le hjl
      have hq1 : 1 ≤ q := by rw [← hq]; exact HLP.out j hj1 hjl
      have hqN : q < N := by omega
      have e0 : W1.cell? ⟨g, j, none⟩ = some (.int .i64 (q : Nat)) := by
        rw [hp.out.1.cellAt j (by omega), nats_get _ j (by rw [HLS.out.1]; omega), hq]
      by_cases hql : q < j
      · have HQR : Hid ((lowM C).getD q 0 = q) := (by have h := HLS.out.root hjl; rw [hq] at h; exact h : (lowM C).getD q 0 = q)
        have HOV : Hid (ovM C j = rootsN (lowM C) q) := (by unfold ovM; rw [hq] : ovM C j = rootsN (lowM C) q)
        have e1 : W1.cell? ⟨w1.heap.size, q, none⟩ = some (.int .i64 (rootsN (lowM C) q : Nat)) := by
          rw [hp.out.2.1.cellAt q (by omega), nats_get _ q (by rw [ovTo_len]; have := HN.out; omega), ovTo_at _ _ _ (by have := HN.out; omega), if_pos ⟨hql, hq1⟩]
          unfold ovM
          rw [HQR.out]
        have HR1 : Hid (rootsN (lowM C) (j + 1) = rootsN (lowM C) j) := (by simp only [rootsN]; rw [if_neg (fun z => by have := z.2; omega)]; simp : rootsN (lowM C) (j + 1) = rootsN (lowM C) j)
        have hdq : decide ((q : Int) < (j : Int)) = true := by simp; omega
        have hdq2 : decide (q < j) = true := by simp; omega
        clear hq
        have hst := hp.out.2.1.stored j (.int .i64 (rootsN (lowM C) q : Nat))
        rw [nats_set, ovTo_next C j (rootsN (lowM C) q) (by have := HN.out; omega) hj1 HOV.out] at hst
        have HST : Hid ((W1.setCell ⟨w1.heap.size, j, none⟩ (.int .i64 (rootsN (lowM C) q : Nat))).ownsRow (w.heap.size + 1) 3 1 (.slice (some ⟨g, 0, none⟩) N N) N (nats (lowM C)) ∧ (W1.setCell ⟨w1.heap.size, j, none⟩ (.int .i64 (rootsN (lowM C) q : Nat))).ownsRow w1.heap.size 3 1 (.slice (some ⟨w1.heap.size, 0, none⟩) N N) N (nats (ovTo C (j + 1))) ∧ Below w.heap.size w (W1.setCell ⟨w1.heap.size, j, none⟩ (.int .i64 (rootsN (lowM C) q : Nat)))) := ⟨hp.out.1.kept hst.2 (Or.inr (fun e => by have : g = w1.heap.size := Option.some.inj e; omega)), hst.1, hp.out.2.2.grown hst.2 hp.out.2.2.size (fun q hq => by have := Option.some.inj hq; omega)⟩
        have z0 : W1.frozen? ⟨w1.heap.size, j, none⟩ = false := hp.out.2.1.frozenAt j
        have eo : W1.cell? ⟨w1.heap.size, j, none⟩ = some (.int .i64 ((ovTo C j).getD j 0 : Nat)) := by
          rw [hp.out.2.1.cellAt j (by omega)]; exact nats_get _ j (by rw [ovTo_len]; have := HN.out; omega)
        clear hst
        go_wp2
        go_roundw
        case rel => exact ⟨j + 1, by omega, by omega, by go_num, (by rw [HR1.out]), HST.out⟩
        case measure => simp only [intOf]; omega

      · obtain rfl : q = j := by omega
        have HOV : Hid (ovM C q = rootsN (lowM C) q) := (by unfold ovM; rw [hq] : ovM C q = rootsN (lowM C) q)
        have HR1 : Hid (rootsN (lowM C) (q + 1) = rootsN (lowM C) q + 1) := (by simp only [rootsN]; rw [if_pos ⟨hq1, hq⟩] : rootsN (lowM C) (q + 1) = rootsN (lowM C) q + 1)
        have hdq : decide ((q : Int) < (q : Int)) = false := by simp
        have hdq2 : decide (q < q) = false := by simp
        clear hq
        have hst := hp.out.2.1.stored q (.int .i64 (rootsN (lowM C) q : Nat))
        rw [nats_set, ovTo_next C q (rootsN (lowM C) q) (by have := HN.out; omega) hj1 HOV.out] at hst
        have HST : Hid ((W1.setCell ⟨w1.heap.size, q, none⟩ (.int .i64 (rootsN (lowM C) q : Nat))).ownsRow (w.heap.size + 1) 3 1 (.slice (some ⟨g, 0, none⟩) N N) N (nats (lowM C)) ∧ (W1.setCell ⟨w1.heap.size, q, none⟩ (.int .i64 (rootsN (lowM C) q : Nat))).ownsRow w1.heap.size 3 1 (.slice (some ⟨w1.heap.size, 0, none⟩) N N) N (nats (ovTo C (q + 1))) ∧ Below w.heap.size w (W1.setCell ⟨w1.heap.size, q, none⟩ (.int .i64 (rootsN (lowM C) q : Nat)))) := ⟨hp.out.1.kept hst.2 (Or.inr (fun e => by have : g = w1.heap.size := Option.some.inj e; omega)), hst.1, hp.out.2.2.grown hst.2 hp.out.2.2.size (fun q hq => by have := Option.some.inj hq; omega)⟩
        have z0 : W1.frozen? ⟨w1.heap.size, q, none⟩ = false := hp.out.2.1.frozenAt q
        have eo : W1.cell? ⟨w1.heap.size, q, none⟩ = some (.int .i64 ((ovTo C q).getD q 0 : Nat)) := by
          rw [hp.out.2.1.cellAt q (by omega)]; exact nats_get _ q (by rw [ovTo_len]; have := HN.out; omega)
        clear hst
        go_wp2
        go_roundw
        case rel => exact ⟨q + 1, by omega, by omega, by go_num, (by rw [HR1.out]; go_num), HST.out⟩
        case measure => simp only [intOf]; omega

    · obtain rfl : N = j := by omega
      go_wp2
      go_ret2
      exact ⟨_, rfl, own_low hp.out.2.1 (by omega), hp.out.2.2⟩
end Go.Proofs.Ytnhllpaoplfgpaa
