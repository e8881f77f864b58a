/- The walk of ref.codeFrom. -/
import Derived.Test.YtdbpiggohncjiaaC2P
import Derived.Deep.RegionLaw
namespace Go.Proofs.Ytdbpiggohncjiaa
open Go.RowKit

set_option maxHeartbeats 8000000 in
set_option maxRecDepth 100000 in
theorem codeFrom_any (b off cap : Nat) (C : List Cr) (loops : Int) (st : Nat) (w : World) (hm : mayD C loops = true) (hst : st < C.length) (hbw : b < w.heap.size) (hC : CrossAt w b off C) :
    Calls Try.prog 98 #[.agg #[.slice (some ⟨b, off, none⟩) C.length cap, .int .i64 loops], .int .i64 st] w fun e w' => ∃ vc vo, e = .returned (.tuple #[vc, vo]) ∧ w'.ownsRow w.heap.size 3 1 vc (te C st).2.length (intsV (te C st).2) ∧ w'.ownsRow w.heap.size 3 1 vo (te C st).1.length (nats (te C st).1) ∧ Below w.heap.size w w' := by
  obtain ⟨s1, -, -, -⟩ := sizeB_iff (may_size hm)
  obtain ⟨i0, hi, hz0, hz1, hz2⟩ := info_parts infoInt
  have HM : Hid (mayD C loops = true) := hm
  have HC : Hid (CrossAt w b off C) := hC
  have HOK : Hid (∀ i, TeOk C (teI C st i)) := fun i => teI_ok hm hst i
  have HTE : Hid (∀ i, (teI C st i).1.length = i → te C st = teI C st i) := fun i h => by
    have h1 := (teI_ok hm hst i).few
    have := teI_stop (C := C) (first := st) (i := i) (by omega) (C.length - i)
    rw [show i + (C.length - i) = C.length by omega] at this
    exact this
  clear hm hC
  obtain ⟨w0, hw0⟩ : ∃ w0, w0 = w.alloc (.cells #[.slice (some ⟨b, off, none⟩) C.length cap, .int .i64 loops] 35) := ⟨_, rfl⟩
  have HW0 : Hid (w0 = w.alloc (.cells #[.slice (some ⟨b, off, none⟩) C.length cap, .int .i64 loops] 35)) := hw0
  have hs0 : w0.heap.size = w.heap.size + 1 := by rw [hw0]; simp
  have HB0 : Hid (Below w.heap.size w w0) := (by rw [hw0]; exact (Below.refl _ _).alloc (Nat.le_refl _) _ : Below w.heap.size w w0)
  have HT0 : Hid (w0.heap[w.heap.size]? = some (.cells #[.slice (some ⟨b, off, none⟩) C.length cap, .int .i64 loops] 35 (0, 0))) := (by rw [hw0]; exact alloc_at rfl : w0.heap[w.heap.size]? = some (.cells #[.slice (some ⟨b, off, none⟩) C.length cap, .int .i64 loops] 35 (0, 0)))
  clear hw0
  go_enter Try.func98, Try.ntmps98
  go_wp2_with (first | (at_make; refine wpList_make_full _ rfl _ _ 52 rfl (w.heap.size + 1) 3 i0 (.int .i64 0) 1 Try.underlying52 hi hz0 hz1 .i64 .i64 _ _ C.length rfl rfl rfl rfl (by rw [hz2]; omega) (by unfold maxLen; omega) (by simp) ?_; intro w1 hrow hg1; refine Hid.out ?_))
  refine Lib.hid ?_
  rw [← HW0.out] at hrow hg1
  rw [made_zero, hs0] at hrow
  have hs1 : w.heap.size + 1 ≤ w1.heap.size := by have := hg1.size; omega
  have HBX : Hid (w1.heap[w.heap.size]? = some (.cells #[.slice (some ⟨b, off, none⟩) C.length cap, .int .i64 loops] 35 (0, 0))) := (hg1.block _ (by omega) (by simp)).trans HT0.out
  have HR1 : Hid (w1.ownsRow (w.heap.size + 1) 3 1 (.slice (some ⟨w.heap.size + 1, 0, none⟩) C.length C.length) C.length (intsV (mapI C.length fun x => if x < 0 then -1 else 0))) := (by rw [mapI_zero _ _ (fun x _ => by rw [if_neg (Nat.not_lt_zero _)])]; exact hrow : w1.ownsRow (w.heap.size + 1) 3 1 (.slice (some ⟨w.heap.size + 1, 0, none⟩) C.length C.length) C.length (intsV (mapI C.length fun x => if x < 0 then -1 else 0)))
  have HB1 : Hid (Below w.heap.size w w1) := HB0.out.grown hg1 (by omega) (fun k hk => by cases hk)
  clear hrow hg1
  go_wp2
  go_loopw [7] (fun v7 wr => ∃ q : Nat, q ≤ C.length ∧ v7 = .int .i64 (q : Nat) ∧ Hid (wr.ownsRow (w.heap.size + 1) 3 1 (.slice (some ⟨w.heap.size + 1, 0, none⟩) C.length C.length) C.length (intsV (mapI C.length fun x => if x < q then -1 else 0)) ∧ wr.heap[w.heap.size]? = some (.cells #[.slice (some ⟨b, off, none⟩) C.length cap, .int .i64 loops] 35 (0, 0)) ∧ Below w.heap.size w wr)) (fun v7 _ => C.length - (intOf v7).toNat)
  case atStart => exact ⟨0, Nat.zero_le _, rfl, HR1.out, HBX.out, HB1.out⟩
  case round =>
    clear HR1 HBX HB1
    rename World => W1
    obtain ⟨q, hqn, rfl, hin⟩ := hrel
    by_cases hql : q < C.length
    · have hst2 := hin.out.1.stored q (.int .i64 (-1))
      rw [intsV_set, mapI_set C.length _ (fun x => if x < q + 1 then -1 else 0) q (-1) (fun y _ => by
        by_cases e : y = q
        · subst e; rw [if_pos (by omega), if_pos rfl]
        · rw [if_neg e]
          by_cases h : y < q
          · rw [if_pos h, if_pos (by omega)]
          · rw [if_neg h, if_neg (by omega)])] at hst2
      have e0 := hin.out.1.cellAt q (by omega)
      rw [intsV_get _ q (by rw [mapI_len]; exact hql), mapI_at _ _ _ hql, if_neg (by omega)] at e0
      have z0 := hin.out.1.frozenAt q
      have hlg := (hin.out.1.lt (w.heap.size + 1) rfl).2
      have hqi : (q : Int) < (C.length : Int) := by omega
      have HN : Hid ((W1.setCell ⟨w.heap.size + 1, q, none⟩ (.int .i64 (-1))).ownsRow (w.heap.size + 1) 3 1 (.slice (some ⟨w.heap.size + 1, 0, none⟩) C.length C.length) C.length (intsV (mapI C.length fun x => if x < q + 1 then -1 else 0)) ∧ (W1.setCell ⟨w.heap.size + 1, q, none⟩ (.int .i64 (-1))).heap[w.heap.size]? = some (.cells #[.slice (some ⟨b, off, none⟩) C.length cap, .int .i64 loops] 35 (0, 0)) ∧ Below w.heap.size w (W1.setCell ⟨w.heap.size + 1, q, none⟩ (.int .i64 (-1)))) := ⟨hst2.1, (hst2.2.block _ (by omega) (fun e => by have := Option.some.inj e; omega)).trans hin.out.2.1, hin.out.2.2.grown hst2.2 hin.out.2.2.size (fun k hk => by have := Option.some.inj hk; omega)⟩
      clear hst2
      go_wp2
      go_roundw
      case rel => exact ⟨q + 1, by omega, by go_num, HN.out⟩
      case measure => simp only [intOf]; omega
    · obtain rfl : q = C.length := by omega
      have hsW := hin.out.2.2.size
      have hlg := (hin.out.1.lt (w.heap.size + 1) rfl).2
      have hst2 := hin.out.1.stored st (.int .i64 0)
      rw [intsV_set, mapI_set C.length _ (nuM [st]) st 0 (fun y hy => by
        unfold nuM
        by_cases e : y = st
        · subst e; simp
        · rw [if_neg e, if_pos hy, if_neg (by simpa using e)])] at hst2
      have e0 := hin.out.1.cellAt st (by omega)
      rw [intsV_get _ st (by rw [mapI_len]; exact hst), mapI_at _ _ _ hst, if_pos hst] at e0
      have z0 := hin.out.1.frozenAt st
      have hsi : (st : Int) < (C.length : Int) := by omega
      obtain ⟨W2, hW2⟩ : ∃ W2, W2 = (W1.setCell ⟨w.heap.size + 1, st, none⟩ (.int .i64 0)).alloc (.cells #[.int .i64 st] 3) := ⟨_, rfl⟩
      have HW2 : Hid (W2 = (W1.setCell ⟨w.heap.size + 1, st, none⟩ (.int .i64 0)).alloc (.cells #[.int .i64 st] 3)) := hW2
      have hs2 : W2.heap.size = W1.heap.size + 1 := by rw [hW2]; simp
      have HCD : Hid (CdAt (w.heap.size + 1) (w.heap.size + 1) C.length (teI C st 0) (.slice (some ⟨W1.heap.size, 0, none⟩) 1 1) (.slice none 0 0) W2) := (by
        rw [hW2]
        refine ⟨hst2.1.alloc _, one_row (by omega) (alloc_at (by simp)), World.ownsRow_nil _ _ _ _, fun e => ?_, fun e => (by cases e), Or.inr (fun e => (by cases e))⟩
        have : W1.heap.size = w.heap.size + 1 := Option.some.inj e
        omega : CdAt (w.heap.size + 1) (w.heap.size + 1) C.length (teI C st 0) (.slice (some ⟨W1.heap.size, 0, none⟩) 1 1) (.slice none 0 0) W2)
      have HX2 : Hid (W2.heap[w.heap.size]? = some (.cells #[.slice (some ⟨b, off, none⟩) C.length cap, .int .i64 loops] 35 (0, 0)) ∧ Below w.heap.size w W2) := (by
        rw [hW2]
        exact ⟨alloc_old ((hst2.2.block _ (by omega) (fun e => by have := Option.some.inj e; omega)).trans hin.out.2.1), (hin.out.2.2.grown hst2.2 hsW (fun k hk => by have := Option.some.inj hk; omega)).alloc (by simp; omega) _⟩ : W2.heap[w.heap.size]? = some (.cells #[.slice (some ⟨b, off, none⟩) C.length cap, .int .i64 loops] 35 (0, 0)) ∧ Below w.heap.size w W2)
      clear hst2 hW2
      go_wp2
      rw [← HW2.out]
      clear e0 z0
      go_loopw [8, 9, 10] (fun v8 v9 v10 wr => ∃ i : Nat, i ≤ (teI C st i).1.length ∧ v10 = .int .i64 (i : Nat) ∧ Hid (CdAt (w.heap.size + 1) (w.heap.size + 1) C.length (teI C st i) v8 v9 wr ∧ wr.heap[w.heap.size]? = some (.cells #[.slice (some ⟨b, off, none⟩) C.length cap, .int .i64 loops] 35 (0, 0)) ∧ Below w.heap.size w wr)) (fun _ _ v10 _ => C.length - (intOf v10).toNat)
      case atStart => exact ⟨0, by simp, rfl, HCD.out, HX2.out⟩
      case round =>
        clear HCD HX2 HW2 hs2
        rename World => W3
        obtain ⟨i, hin3, rfl, hcd⟩ := hrel
        obtain ⟨ao, co, eo⟩ := own_capS hcd.out.1.ord
        obtain ⟨ac, cc, ec⟩ := own_capS hcd.out.1.cod
        subst eo ec
        by_cases hil : i < (teI C st i).1.length
        · have hok := HOK.out i
          have hfew := hok.few
          have hcl9 := teI_len C st i
          have HI1 : Hid (teI C st (i + 1) = teK C i (teI C st i) 4) := (by rw [teI, if_pos hil] : teI C st (i + 1) = teK C i (teI C st i) 4)
          obtain ⟨P, hP⟩ : ∃ P, teI C st i = P := ⟨_, rfl⟩
          rw [hP] at hcd hil hin3 hok hfew HI1 hcl9 ⊢
          obtain ⟨g, c', eo, hg1, hg2⟩ := own_block hcd.out.1.ord (by omega)
          injection eo with eo1 eo2 eo3
          subst eo1 eo3
          have q0 := hcd.out.1.ord.cellAt i (by omega)
          rw [nats_get P.1 i hil] at q0
          have hcl : P.1.getD i 0 < C.length := hok.lt _ (by rw [List.getD_eq_getElem?_getD, List.getElem?_eq_getElem hil]; exact List.getElem_mem hil)
          obtain ⟨c, hc⟩ : ∃ c, P.1.getD i 0 = c := ⟨_, rfl⟩
          have HCI : Hid (P.1.getD i 0 = c) := hc
          rw [hc] at q0 hcl
          obtain ⟨x0, x1, x2, x3, x4⟩ := (HC.out.on hcd.out.2.2 hbw) c hcl
          have HK0 : Hid (teK C i P 0 = (P.1, P.2 ++ [if (C.getD c Cr.none).plus = true then 1 else 0])) := (by rw [teK, hc] : teK C i P 0 = (P.1, P.2 ++ [if (C.getD c Cr.none).plus = true then 1 else 0]))
          have k0 : W3.cell? ⟨w.heap.size, 0, none⟩ = some (.slice (some ⟨b, off, none⟩) C.length cap) := block_cell hcd.out.2.1 rfl
          have hsW3 := hcd.out.2.2.size
          have hbW3 : b < W3.heap.size := by omega
          have hlw : w.heap.size < W3.heap.size := (Array.getElem?_eq_some_iff.1 hcd.out.2.1).1
          have hii : (i : Int) < (P.1.length : Int) := by omega
          have hci : (c : Int) < (C.length : Int) := by omega
          have hdi : decide ((i : Int) < (P.1.length : Int)) = true := decide_eq_true hii
          have hdi2 : decide (i < P.1.length) = true := decide_eq_true hil
          obtain ⟨pl, hpl⟩ : ∃ pl, (C.getD c Cr.none).plus = pl := ⟨_, rfl⟩
          rw [hpl] at x4 HK0
          clear hc hpl
          have HCO : Hid (W3.ownsRow (w.heap.size + 1) 3 1 (.slice ac P.2.length cc) P.2.length (intsV P.2)) := hcd.out.1.cod
          cases pl with
          | true =>
            go_wp2_with (first | (at_builtin; refine wpList_append_lies _ rfl _ _ 52 rfl (w.heap.size + 1) 3 i0 (.int .i64 0) 1 8 Try.underlying52 hi hz0 hz1 hz2 rfl (by decide) _ P.2.length (intsV P.2) rfl (HCO.out.alloc _) ⟨W3.heap.size, 0, none⟩ 1 1 [.int .i64 1] rfl rfl (new_cell1 _ _ _) (int_one _) (by decide) (by unfold maxLen; omega) (by omega) (by simp; omega) _ rfl ?_; intro g8 cap8 w8 hown8 hg8 hl8 hlt8; refine Hid.out ?_))
            refine Lib.hid ?_
            have HK8 : Hid (CdAt (w.heap.size + 1) (w.heap.size + 1) C.length (teK C i P 0) (.slice (some ⟨g, 0, none⟩) P.1.length co) (.slice (some ⟨g8, 0, none⟩) (P.2.length + 1) cap8) w8) := (by
              rw [HK0.out]
              simp only [if_true]
              exact (hcd.out.1.any (grown_none (World.grownBy_alloc W3 _ none))).code (xs := [1]) (k := P.2.length + 1) (by simp) (by simpa [intsV] using hown8) hg8 hl8 rfl : CdAt (w.heap.size + 1) (w.heap.size + 1) C.length (teK C i P 0) (.slice (some ⟨g, 0, none⟩) P.1.length co) (.slice (some ⟨g8, 0, none⟩) (P.2.length + 1) cap8) w8)
            have HX8 : Hid (w8.heap[w.heap.size]? = some (.cells #[.slice (some ⟨b, off, none⟩) C.length cap, .int .i64 loops] 35 (0, 0)) ∧ Below w.heap.size w w8) := ⟨(hg8.block _ (by simp; omega) (fun e => by have := (hcd.out.1.cod.lt w.heap.size e.symm).1; omega)).trans (alloc_old hcd.out.2.1), (hcd.out.2.2.alloc hsW3 _).grown hg8 (by simp; omega) (fun q hq => by have := (hcd.out.1.cod.lt q hq).1; omega)⟩
            have HOP : Hid (∀ k, k ≤ 4 → TeOk C (teK C i P k)) := fun k hk => teK_ok HM.out hil hok hk
            have HPR : Hid (∀ k, P.1 <+: (teK C i P k).1) := fun k => teK_pre C i P k
            have HKL : Hid (∀ k, (teK C i P k).2.length = P.2.length + 1 + 2 * k) := fun k => teK_len C i P k
            have HNX : Hid (∀ k, teK C i P (k + 1) = teS C c (teK C i P k) k) := fun k => (by rw [teK, HCI.out])
            clear hown8 hg8 hl8 hlt8 q0 x0 x1 x2 x3 x4 k0
            go_wp2
            go_loopw [8, 9, 12] (fun v8 v9 v12 ws => ∃ k : Nat, k ≤ 4 ∧ v12 = .int .i64 (k : Nat) ∧ Hid (CdAt (w.heap.size + 1) (w.heap.size + 1) C.length (teK C i P k) v8 v9 ws ∧ ws.heap[w.heap.size]? = some (.cells #[.slice (some ⟨b, off, none⟩) C.length cap, .int .i64 loops] 35 (0, 0)) ∧ Below w.heap.size w ws)) (fun _ _ v12 _ => 4 - (intOf v12).toNat)
            case atStart => exact ⟨0, Nat.zero_le _, rfl, HK8.out, HX8.out⟩
            case round =>
              clear HK8 HX8
              rename World => W4
              obtain ⟨k, hkn, rfl, hkd⟩ := hrel
              obtain ⟨av, cv, ev⟩ := own_capS hkd.out.1.ord
              obtain ⟨au, cu, eu⟩ := own_capS hkd.out.1.cod
              subst ev eu
              by_cases hkl : k < 4
              · have hop := HOP.out k hkn
                have hfq := hop.few
                have hql := HKL.out k
                have hqb : (teK C i P k).2.length ≤ 200 := by omega
                have HN1 := HNX.out k
                obtain ⟨-, -, hxl, hyl⟩ := nb_may HM.out c k hcl hkl
                obtain ⟨Q, hQ⟩ : ∃ Q, teK C i P k = Q := ⟨_, rfl⟩
                rw [hQ] at hkd hop hfq hqb HN1 ⊢
                clear hql
                obtain ⟨x, hx⟩ : ∃ x, nbC C c k = x := ⟨_, rfl⟩
                obtain ⟨y, hy⟩ : ∃ y, nbS C c k = y := ⟨_, rfl⟩
                have HNE : Hid (teK C i P (k + 1) = ((if x ∈ Q.1 then Q.1 else Q.1 ++ [x]), Q.2 ++ [((if x ∈ Q.1 then Q.1 else Q.1 ++ [x]).idxOf x : Int), (y : Int)])) := (by rw [HN1]; unfold teS; rw [hx, hy] : teK C i P (k + 1) = ((if x ∈ Q.1 then Q.1 else Q.1 ++ [x]), Q.2 ++ [((if x ∈ Q.1 then Q.1 else Q.1 ++ [x]).idxOf x : Int), (y : Int)]))
                have HEX : Hid (nbC C c k = x) := hx
                have HEY : Hid (nbS C c k = y) := hy
                rw [hx] at hxl
                rw [hy] at hyl
                have hsW4 := hkd.out.2.2.size
                have hbW4 : b < W4.heap.size := by omega
                have HC4 : Hid (CrossAt W4 b off C) := HC.out.on hkd.out.2.2 hbw
                have k0 : W4.cell? ⟨w.heap.size, 0, none⟩ = some (.slice (some ⟨b, off, none⟩) C.length cap) := block_cell hkd.out.2.1 rfl
                have k1 : W4.cell? ⟨w.heap.size, 1, none⟩ = some (.int .i64 loops) := block_cell hkd.out.2.1 rfl
                have hlw4 : w.heap.size < W4.heap.size := (Array.getElem?_eq_some_iff.1 hkd.out.2.1).1
                clear HN1 hx hy
                go_wp2_with (go_at_call 163; refine (otherEnd_any b off cap C loops c k _ HM.out hcl hkl hbW4 HC4.out).mono ?_; rw [HEX.out, HEY.out]; rintro e9 w5 ⟨rfl, hb5⟩; refine Hid.out ?_)
                refine Lib.hid ?_
                have hs5 := hb5.size
                have HK5 : Hid (CdAt (w.heap.size + 1) (w.heap.size + 1) C.length Q (.slice av Q.1.length cv) (.slice au Q.2.length cu) (w5.alloc (.cells #[.int .i64 x, .int .i64 y] 133))) := (hkd.out.1.any (grown_below hb5 none)).any (World.grownBy_alloc _ _ none)
                have HX5 : Hid ((w5.alloc (.cells #[.int .i64 x, .int .i64 y] 133)).heap[w.heap.size]? = some (.cells #[.slice (some ⟨b, off, none⟩) C.length cap, .int .i64 loops] 35 (0, 0)) ∧ Below w.heap.size w (w5.alloc (.cells #[.int .i64 x, .int .i64 y] 133))) := ⟨alloc_old ((hb5.block _ hlw4).trans hkd.out.2.1), (hkd.out.2.2.trans (hb5.mono hsW4)).alloc (by omega) _⟩
                have HXW : Hid (w5.heap[w.heap.size]? = some (.cells #[.slice (some ⟨b, off, none⟩) C.length cap, .int .i64 loops] 35 (0, 0)) ∧ Below w.heap.size w w5) := ⟨(hb5.block _ hlw4).trans hkd.out.2.1, hkd.out.2.2.trans (hb5.mono hsW4)⟩
                obtain ⟨W5, hW5⟩ : ∃ W5, W5 = w5.alloc (.cells #[.int .i64 x, .int .i64 y] 133) := ⟨_, rfl⟩
                have HW5 : Hid (W5 = w5.alloc (.cells #[.int .i64 x, .int .i64 y] 133)) := hW5
                rw [← hW5] at HK5 HX5
                have HO5 : Hid (W5.heap[w5.heap.size]? = some (.cells #[.int .i64 x, .int .i64 y] 133 (0, 0))) := (by rw [hW5]; exact alloc_at rfl : W5.heap[w5.heap.size]? = some (.cells #[.int .i64 x, .int .i64 y] 133 (0, 0)))
                have hs5' : W5.heap.size = w5.heap.size + 1 := by rw [hW5]; simp
                have n0 : W5.cell? ⟨w5.heap.size, 0, none⟩ = some (.int .i64 x) := block_cell HO5.out rfl
                have n1 : W5.cell? ⟨w5.heap.size, 1, none⟩ = some (.int .i64 y) := block_cell HO5.out rfl
                have HK5w : Hid (CdAt (w.heap.size + 1) (w.heap.size + 1) C.length Q (.slice av Q.1.length cv) (.slice au Q.2.length cu) w5) := hkd.out.1.any (grown_below hb5 none)
                have n2 := HK5w.out.num.cellAt x (by omega)
                rw [intsV_get _ x (by rw [mapI_len]; exact hxl), mapI_at _ _ _ hxl] at n2
                have hlN := (HK5w.out.num.lt (w.heap.size + 1) rfl).2
                have hxi : (x : Int) < (C.length : Int) := by omega
                clear hb5 hW5 k0 k1
                by_cases hxq : x ∈ Q.1
                · obtain ⟨r, hr⟩ : ∃ r, Q.1.idxOf x = r := ⟨_, rfl⟩
                  have en : nuM Q.1 x = (r : Int) := by unfold nuM; rw [if_pos hxq, hr]
                  rw [en] at n2
                  rw [if_pos hxq, hr] at HNE
                  have hrn : decide ((r : Int) < 0) = false := decide_eq_false (by omega)
                  clear en hr
                  go_wp2
                  rw [← HW5.out]
                  have n3 : W5.cell? ⟨w.heap.size + 1, x, none⟩ = some (.int .i64 r) := (by rw [HW5.out]; exact bcell ((Below.refl _ _).alloc (Nat.le_refl _) _) hlN n2 : W5.cell? ⟨w.heap.size + 1, x, none⟩ = some (.int .i64 r))
                  have hlN5 : w.heap.size + 1 < W5.heap.size := by omega
                  have hlO5 : w5.heap.size < W5.heap.size := by omega
                  have HCO5 : Hid (W5.drew.ownsRow (w.heap.size + 1) 3 1 (.slice au Q.2.length cu) Q.2.length (intsV Q.2)) := HK5.out.cod
                  clear n2
                  go_region_law (first
                    | (refine step_append_lies _ rfl (.tmp 80) (.tmp 88) 52 rfl (w.heap.size + 1) 3 i0 (.int .i64 0) 1 8 Try.underlying52 hi hz0 hz1 hz2 rfl (by decide) _ Q.2.length (intsV Q.2) (by simp [Act.eval]) (HCO5.out.alloc _) ⟨W5.drew.heap.size, 0, none⟩ 2 2 [.int .i64 r, .int .i64 y] (by simp [Act.eval]) rfl (cells_two _ _ _ _) (ints_two _ _) (by decide) (by unfold maxLen; omega) (by omega) (by simp; omega) _ rfl ?_; intro g9 cap9 w9 hown9 hg9 hl9 hlt9))
                  all_goals
                    have HK9 : Hid (CdAt (w.heap.size + 1) (w.heap.size + 1) C.length (teK C i P (k + 1)) (.slice av Q.1.length cv) (.slice (some ⟨g9, 0, none⟩) (Q.2.length + 2) cap9) w9) := (by
                      rw [HNE.out]
                      exact (HK5.out.drew.any (grown_none (World.grownBy_alloc W5.drew _ none))).code (xs := [(r : Int), (y : Int)]) (k := Q.2.length + 2) (by simp) (by simpa [intsV] using hown9) hg9 hl9 rfl : CdAt (w.heap.size + 1) (w.heap.size + 1) C.length (teK C i P (k + 1)) (.slice av Q.1.length cv) (.slice (some ⟨g9, 0, none⟩) (Q.2.length + 2) cap9) w9)
                    have HX9 : Hid (w9.heap[w.heap.size]? = some (.cells #[.slice (some ⟨b, off, none⟩) C.length cap, .int .i64 loops] 35 (0, 0)) ∧ Below w.heap.size w w9) := ⟨(hg9.block _ (by have := HX5.out.2.size; simp; omega) (fun e => by have := (HCO5.out.lt w.heap.size e.symm).1; omega)).trans (alloc_old HX5.out.1), (HX5.out.2.drew.alloc (show w.heap.size ≤ W5.heap.size by omega) _).grown hg9 (by simp; omega) (fun q hq => by have := (HCO5.out.lt q hq).1; omega)⟩
                    clear hown9 hg9 hl9 hlt9 n0 n1 n3
                    go_wp2
                    go_roundw
                  all_goals first
                    | (simp only [intOf]; omega)
                    | exact ⟨k + 1, by omega, by go_num, HK9.out, HX9.out⟩
                · have en : nuM Q.1 x = -1 := by unfold nuM; rw [if_neg hxq]
                  rw [en] at n2
                  have z2 := HK5w.out.num.frozenAt x
                  have hidx : (Q.1 ++ [x]).idxOf x = Q.1.length := by rw [List.idxOf_append, if_neg hxq]; simp
                  rw [if_neg hxq, hidx] at HNE
                  clear en hidx
                  obtain ⟨pt1, pt2, pt3, pt4⟩ := HK5w.out.put (x := x)
                  have HU1 : Hid (((w5.setCell ⟨w.heap.size + 1, x, none⟩ (.int .i64 (Q.1.length : Nat))).alloc (.cells #[.int .i64 x, .int .i64 y] 133)).ownsRow (w.heap.size + 1) 3 1 (.slice (some ⟨w.heap.size + 1, 0, none⟩) C.length C.length) C.length (intsV ((mapI C.length (nuM Q.1)).set x (Q.1.length : Int)))) := pt1.alloc _
                  have HU2 : Hid (((w5.setCell ⟨w.heap.size + 1, x, none⟩ (.int .i64 (Q.1.length : Nat))).alloc (.cells #[.int .i64 x, .int .i64 y] 133)).ownsRow (w.heap.size + 1) 3 1 (.slice av Q.1.length cv) Q.1.length (nats Q.1)) := pt2.alloc _
                  have HU3 : Hid (((w5.setCell ⟨w.heap.size + 1, x, none⟩ (.int .i64 (Q.1.length : Nat))).alloc (.cells #[.int .i64 x, .int .i64 y] 133)).ownsRow (w.heap.size + 1) 3 1 (.slice au Q.2.length cu) Q.2.length (intsV Q.2)) := pt3.alloc _
                  have hsx : ((w5.setCell ⟨w.heap.size + 1, x, none⟩ (.int .i64 (Q.1.length : Nat))).alloc (.cells #[.int .i64 x, .int .i64 y] 133)).heap.size = w5.heap.size + 1 := by simp
                  have HU4 : Hid (((w5.setCell ⟨w.heap.size + 1, x, none⟩ (.int .i64 (Q.1.length : Nat))).alloc (.cells #[.int .i64 x, .int .i64 y] 133)).heap[w5.heap.size]? = some (.cells #[.int .i64 x, .int .i64 y] 133 (0, 0))) := alloc_at (by simp)
                  have HU5 : Hid (((w5.setCell ⟨w.heap.size + 1, x, none⟩ (.int .i64 (Q.1.length : Nat))).alloc (.cells #[.int .i64 x, .int .i64 y] 133)).heap[w.heap.size]? = some (.cells #[.slice (some ⟨b, off, none⟩) C.length cap, .int .i64 loops] 35 (0, 0)) ∧ Below w.heap.size w ((w5.setCell ⟨w.heap.size + 1, x, none⟩ (.int .i64 (Q.1.length : Nat))).alloc (.cells #[.int .i64 x, .int .i64 y] 133))) := ⟨alloc_old ((pt4.block _ (by omega) (fun e => by have := Option.some.inj e; omega)).trans HXW.out.1), (HXW.out.2.grown pt4 (by omega) (fun q hq => by have := Option.some.inj hq; omega)).alloc (by simp; omega) _⟩
                  have hqo := HK5w.out.ord.lt
                  have HQO : Hid (∀ q, (Value.slice av Q.1.length cv).ownBlock = some q → w.heap.size + 1 ≤ q ∧ q < w5.heap.size) := hqo
                  clear pt1 pt2 pt3 pt4 hqo
                  go_wp2_with (first | (at_builtin; refine wpList_append_lies _ rfl _ _ 52 rfl (w.heap.size + 1) 3 i0 (.int .i64 0) 1 8 Try.underlying52 hi hz0 hz1 hz2 rfl (by decide) _ Q.1.length (nats Q.1) rfl (HU2.out.alloc _) ⟨w5.heap.size + 1, 0, none⟩ 1 1 [.int .i64 x] rfl rfl (by rw [← hsx]; exact new_cell1 _ _ _) (int_one _) (by decide) (by unfold maxLen; omega) (by omega) (by simp; omega) _ rfl ?_; intro g8 cap8 w8 hown8 hg8 hl8 hlt8; refine Hid.out ?_))
                  refine Lib.hid ?_
                  have HK8 : Hid (CdAt (w.heap.size + 1) (w.heap.size + 1) C.length (Q.1 ++ [x], Q.2) (.slice (some ⟨g8, 0, none⟩) (Q.1.length + 1) cap8) (.slice au Q.2.length cu) w8) := CdAt.order (W := ((w5.setCell ⟨w.heap.size + 1, x, none⟩ (.int .i64 (Q.1.length : Nat))).alloc (.cells #[.int .i64 x, .int .i64 y] 133)).alloc (.cells #[.int .i64 x] 3)) (vo := .slice av Q.1.length cv) hxq (by simp) (HU1.out.alloc _) (HU3.out.alloc _) HK5w.out.oN HK5w.out.cN HK5w.out.oc (by simpa [nats] using hown8) hg8 hl8 rfl
                  have hO8 : w8.heap[w5.heap.size]? = some (.cells #[.int .i64 x, .int .i64 y] 133 (0, 0)) := (hg8.block _ (by simp; omega) (fun e => by have := (HQO.out _ e.symm).2; omega)).trans (alloc_old HU4.out)
                  have HX8' : Hid (w8.heap[w.heap.size]? = some (.cells #[.slice (some ⟨b, off, none⟩) C.length cap, .int .i64 loops] 35 (0, 0)) ∧ Below w.heap.size w w8) := ⟨(hg8.block _ (by simp; omega) (fun e => by have := (HQO.out _ e.symm).1; omega)).trans (alloc_old HU5.out.1), (HU5.out.2.alloc (by simp; omega) _).grown hg8 (by simp; omega) (fun q hq => by have := (HQO.out _ hq).1; omega)⟩
                  have hs8 : w5.heap.size + 2 ≤ w8.heap.size := by have := hg8.size; simpa using this
                  have m0 : w8.cell? ⟨w5.heap.size, 0, none⟩ = some (.int .i64 x) := block_cell hO8 rfl
                  have m1 : w8.cell? ⟨w5.heap.size, 1, none⟩ = some (.int .i64 y) := block_cell hO8 rfl
                  have m3 := HK8.out.num.cellAt x (by omega)
                  have enx : nuM (Q.1 ++ [x]) x = (Q.1.length : Int) := by unfold nuM; rw [if_pos (by simp), List.idxOf_append, if_neg hxq]; simp
                  rw [intsV_get _ x (by rw [mapI_len]; exact hxl), mapI_at _ _ _ hxl, enx] at m3
                  have hlN8 : w.heap.size + 1 < w8.heap.size := by omega
                  have hlO8 : w5.heap.size < w8.heap.size := by omega
                  have HCO8 : Hid (w8.drew.ownsRow (w.heap.size + 1) 3 1 (.slice au Q.2.length cu) Q.2.length (intsV Q.2)) := HK8.out.cod
                  clear hown8 hg8 hl8 hlt8 hO8 enx n0 n1 n2 z2
                  go_wp2
                  go_region_law (first
                    | (refine step_append_lies _ rfl (.tmp 80) (.tmp 88) 52 rfl (w.heap.size + 1) 3 i0 (.int .i64 0) 1 8 Try.underlying52 hi hz0 hz1 hz2 rfl (by decide) _ Q.2.length (intsV Q.2) (by simp [Act.eval]) (HCO8.out.alloc _) ⟨w8.drew.heap.size, 0, none⟩ 2 2 [.int .i64 (Q.1.length : Nat), .int .i64 y] (by simp [Act.eval]) rfl (cells_two _ _ _ _) (ints_two _ _) (by decide) (by unfold maxLen; omega) (by omega) (by simp; omega) _ rfl ?_; intro g9 cap9 w9 hown9 hg9 hl9 hlt9))
                  all_goals
                    have HK9 : Hid (CdAt (w.heap.size + 1) (w.heap.size + 1) C.length (teK C i P (k + 1)) (.slice (some ⟨g8, 0, none⟩) (Q.1.length + 1) cap8) (.slice (some ⟨g9, 0, none⟩) (Q.2.length + 2) cap9) w9) := (by
                      rw [HNE.out]
                      exact (HK8.out.drew.any (grown_none (World.grownBy_alloc w8.drew _ none))).code (xs := [(Q.1.length : Int), (y : Int)]) (k := Q.2.length + 2) (by simp) (by simpa [intsV] using hown9) hg9 hl9 rfl : CdAt (w.heap.size + 1) (w.heap.size + 1) C.length (teK C i P (k + 1)) (.slice (some ⟨g8, 0, none⟩) (Q.1.length + 1) cap8) (.slice (some ⟨g9, 0, none⟩) (Q.2.length + 2) cap9) w9)
                    have HX9 : Hid (w9.heap[w.heap.size]? = some (.cells #[.slice (some ⟨b, off, none⟩) C.length cap, .int .i64 loops] 35 (0, 0)) ∧ Below w.heap.size w w9) := ⟨(hg9.block _ (by simp; omega) (fun e => by have := (HCO8.out.lt w.heap.size e.symm).1; omega)).trans (alloc_old HX8'.out.1), (HX8'.out.2.drew.alloc (show w.heap.size ≤ w8.heap.size by omega) _).grown hg9 (by simp; omega) (fun q hq => by have := (HCO8.out.lt q hq).1; omega)⟩
                    clear hown9 hg9 hl9 hlt9 m0 m1 m3
                    go_wp2
                    go_roundw
                  all_goals first
                    | (simp only [intOf]; omega)
                    | exact ⟨k + 1, by omega, by go_num, HK9.out, HX9.out⟩
              · obtain rfl : k = 4 := by omega
                go_wp2
                go_roundw
                case rel =>
                  refine ⟨i + 1, ?_, by go_num, ?_⟩
                  · rw [HI1.out]; have := (HPR.out 4).length_le; omega
                  · rw [HI1.out]; exact hkd.out
                case measure => simp only [intOf]; omega
          | false =>
            go_wp2_with (first | (at_builtin; refine wpList_append_lies _ rfl _ _ 52 rfl (w.heap.size + 1) 3 i0 (.int .i64 0) 1 8 Try.underlying52 hi hz0 hz1 hz2 rfl (by decide) _ P.2.length (intsV P.2) rfl (HCO.out.alloc _) ⟨W3.heap.size, 0, none⟩ 1 1 [.int .i64 0] rfl rfl (new_cell1 _ _ _) (int_one _) (by decide) (by unfold maxLen; omega) (by omega) (by simp; omega) _ rfl ?_; intro g8 cap8 w8 hown8 hg8 hl8 hlt8; refine Hid.out ?_))
            refine Lib.hid ?_
            have HK8 : Hid (CdAt (w.heap.size + 1) (w.heap.size + 1) C.length (teK C i P 0) (.slice (some ⟨g, 0, none⟩) P.1.length co) (.slice (some ⟨g8, 0, none⟩) (P.2.length + 1) cap8) w8) := (by
              rw [HK0.out]
              simp only [Bool.false_eq_true, if_false]
              exact (hcd.out.1.any (grown_none (World.grownBy_alloc W3 _ none))).code (xs := [0]) (k := P.2.length + 1) (by simp) (by simpa [intsV] using hown8) hg8 hl8 rfl : CdAt (w.heap.size + 1) (w.heap.size + 1) C.length (teK C i P 0) (.slice (some ⟨g, 0, none⟩) P.1.length co) (.slice (some ⟨g8, 0, none⟩) (P.2.length + 1) cap8) w8)
            have HX8 : Hid (w8.heap[w.heap.size]? = some (.cells #[.slice (some ⟨b, off, none⟩) C.length cap, .int .i64 loops] 35 (0, 0)) ∧ Below w.heap.size w w8) := ⟨(hg8.block _ (by simp; omega) (fun e => by have := (hcd.out.1.cod.lt w.heap.size e.symm).1; omega)).trans (alloc_old hcd.out.2.1), (hcd.out.2.2.alloc hsW3 _).grown hg8 (by simp; omega) (fun q hq => by have := (hcd.out.1.cod.lt q hq).1; omega)⟩
            have HOP : Hid (∀ k, k ≤ 4 → TeOk C (teK C i P k)) := fun k hk => teK_ok HM.out hil hok hk
            have HPR : Hid (∀ k, P.1 <+: (teK C i P k).1) := fun k => teK_pre C i P k
            have HKL : Hid (∀ k, (teK C i P k).2.length = P.2.length + 1 + 2 * k) := fun k => teK_len C i P k
            have HNX : Hid (∀ k, teK C i P (k + 1) = teS C c (teK C i P k) k) := fun k => (by rw [teK, HCI.out])
            clear hown8 hg8 hl8 hlt8 q0 x0 x1 x2 x3 x4 k0
            go_wp2
            go_loopw [8, 9, 12] (fun v8 v9 v12 ws => ∃ k : Nat, k ≤ 4 ∧ v12 = .int .i64 (k : Nat) ∧ Hid (CdAt (w.heap.size + 1) (w.heap.size + 1) C.length (teK C i P k) v8 v9 ws ∧ ws.heap[w.heap.size]? = some (.cells #[.slice (some ⟨b, off, none⟩) C.length cap, .int .i64 loops] 35 (0, 0)) ∧ Below w.heap.size w ws)) (fun _ _ v12 _ => 4 - (intOf v12).toNat)
            case atStart => exact ⟨0, Nat.zero_le _, rfl, HK8.out, HX8.out⟩
            case round =>
              clear HK8 HX8
              rename World => W4
              obtain ⟨k, hkn, rfl, hkd⟩ := hrel
              obtain ⟨av, cv, ev⟩ := own_capS hkd.out.1.ord
              obtain ⟨au, cu, eu⟩ := own_capS hkd.out.1.cod
              subst ev eu
              by_cases hkl : k < 4
              · have hop := HOP.out k hkn
                have hfq := hop.few
                have hql := HKL.out k
                have hqb : (teK C i P k).2.length ≤ 200 := by omega
                have HN1 := HNX.out k
                obtain ⟨-, -, hxl, hyl⟩ := nb_may HM.out c k hcl hkl
                obtain ⟨Q, hQ⟩ : ∃ Q, teK C i P k = Q := ⟨_, rfl⟩
                rw [hQ] at hkd hop hfq hqb HN1 ⊢
                clear hql
                obtain ⟨x, hx⟩ : ∃ x, nbC C c k = x := ⟨_, rfl⟩
                obtain ⟨y, hy⟩ : ∃ y, nbS C c k = y := ⟨_, rfl⟩
                have HNE : Hid (teK C i P (k + 1) = ((if x ∈ Q.1 then Q.1 else Q.1 ++ [x]), Q.2 ++ [((if x ∈ Q.1 then Q.1 else Q.1 ++ [x]).idxOf x : Int), (y : Int)])) := (by rw [HN1]; unfold teS; rw [hx, hy] : teK C i P (k + 1) = ((if x ∈ Q.1 then Q.1 else Q.1 ++ [x]), Q.2 ++ [((if x ∈ Q.1 then Q.1 else Q.1 ++ [x]).idxOf x : Int), (y : Int)]))
                have HEX : Hid (nbC C c k = x) := hx
                have HEY : Hid (nbS C c k = y) := hy
                rw [hx] at hxl
                rw [hy] at hyl
                have hsW4 := hkd.out.2.2.size
                have hbW4 : b < W4.heap.size := by omega
                have HC4 : Hid (CrossAt W4 b off C) := HC.out.on hkd.out.2.2 hbw
                have k0 : W4.cell? ⟨w.heap.size, 0, none⟩ = some (.slice (some ⟨b, off, none⟩) C.length cap) := block_cell hkd.out.2.1 rfl
                have k1 : W4.cell? ⟨w.heap.size, 1, none⟩ = some (.int .i64 loops) := block_cell hkd.out.2.1 rfl
                have hlw4 : w.heap.size < W4.heap.size := (Array.getElem?_eq_some_iff.1 hkd.out.2.1).1
                clear HN1 hx hy
                go_wp2_with (go_at_call 163; refine (otherEnd_any b off cap C loops c k _ HM.out hcl hkl hbW4 HC4.out).mono ?_; rw [HEX.out, HEY.out]; rintro e9 w5 ⟨rfl, hb5⟩; refine Hid.out ?_)
                refine Lib.hid ?_
                have hs5 := hb5.size
                have HK5 : Hid (CdAt (w.heap.size + 1) (w.heap.size + 1) C.length Q (.slice av Q.1.length cv) (.slice au Q.2.length cu) (w5.alloc (.cells #[.int .i64 x, .int .i64 y] 133))) := (hkd.out.1.any (grown_below hb5 none)).any (World.grownBy_alloc _ _ none)
                have HX5 : Hid ((w5.alloc (.cells #[.int .i64 x, .int .i64 y] 133)).heap[w.heap.size]? = some (.cells #[.slice (some ⟨b, off, none⟩) C.length cap, .int .i64 loops] 35 (0, 0)) ∧ Below w.heap.size w (w5.alloc (.cells #[.int .i64 x, .int .i64 y] 133))) := ⟨alloc_old ((hb5.block _ hlw4).trans hkd.out.2.1), (hkd.out.2.2.trans (hb5.mono hsW4)).alloc (by omega) _⟩
                have HXW : Hid (w5.heap[w.heap.size]? = some (.cells #[.slice (some ⟨b, off, none⟩) C.length cap, .int .i64 loops] 35 (0, 0)) ∧ Below w.heap.size w w5) := ⟨(hb5.block _ hlw4).trans hkd.out.2.1, hkd.out.2.2.trans (hb5.mono hsW4)⟩
                obtain ⟨W5, hW5⟩ : ∃ W5, W5 = w5.alloc (.cells #[.int .i64 x, .int .i64 y] 133) := ⟨_, rfl⟩
                have HW5 : Hid (W5 = w5.alloc (.cells #[.int .i64 x, .int .i64 y] 133)) := hW5
                rw [← hW5] at HK5 HX5
                have HO5 : Hid (W5.heap[w5.heap.size]? = some (.cells #[.int .i64 x, .int .i64 y] 133 (0, 0))) := (by rw [hW5]; exact alloc_at rfl : W5.heap[w5.heap.size]? = some (.cells #[.int .i64 x, .int .i64 y] 133 (0, 0)))
                have hs5' : W5.heap.size = w5.heap.size + 1 := by rw [hW5]; simp
                have n0 : W5.cell? ⟨w5.heap.size, 0, none⟩ = some (.int .i64 x) := block_cell HO5.out rfl
                have n1 : W5.cell? ⟨w5.heap.size, 1, none⟩ = some (.int .i64 y) := block_cell HO5.out rfl
                have HK5w : Hid (CdAt (w.heap.size + 1) (w.heap.size + 1) C.length Q (.slice av Q.1.length cv) (.slice au Q.2.length cu) w5) := hkd.out.1.any (grown_below hb5 none)
                have n2 := HK5w.out.num.cellAt x (by omega)
                rw [intsV_get _ x (by rw [mapI_len]; exact hxl), mapI_at _ _ _ hxl] at n2
                have hlN := (HK5w.out.num.lt (w.heap.size + 1) rfl).2
                have hxi : (x : Int) < (C.length : Int) := by omega
                clear hb5 hW5 k0 k1
                by_cases hxq : x ∈ Q.1
                · obtain ⟨r, hr⟩ : ∃ r, Q.1.idxOf x = r := ⟨_, rfl⟩
                  have en : nuM Q.1 x = (r : Int) := by unfold nuM; rw [if_pos hxq, hr]
                  rw [en] at n2
                  rw [if_pos hxq, hr] at HNE
                  have hrn : decide ((r : Int) < 0) = false := decide_eq_false (by omega)
                  clear en hr
                  go_wp2
                  rw [← HW5.out]
                  have n3 : W5.cell? ⟨w.heap.size + 1, x, none⟩ = some (.int .i64 r) := (by rw [HW5.out]; exact bcell ((Below.refl _ _).alloc (Nat.le_refl _) _) hlN n2 : W5.cell? ⟨w.heap.size + 1, x, none⟩ = some (.int .i64 r))
                  have hlN5 : w.heap.size + 1 < W5.heap.size := by omega
                  have hlO5 : w5.heap.size < W5.heap.size := by omega
                  have HCO5 : Hid (W5.drew.ownsRow (w.heap.size + 1) 3 1 (.slice au Q.2.length cu) Q.2.length (intsV Q.2)) := HK5.out.cod
                  clear n2
                  go_region_law (first
                    | (refine step_append_lies _ rfl (.tmp 80) (.tmp 88) 52 rfl (w.heap.size + 1) 3 i0 (.int .i64 0) 1 8 Try.underlying52 hi hz0 hz1 hz2 rfl (by decide) _ Q.2.length (intsV Q.2) (by simp [Act.eval]) (HCO5.out.alloc _) ⟨W5.drew.heap.size, 0, none⟩ 2 2 [.int .i64 r, .int .i64 y] (by simp [Act.eval]) rfl (cells_two _ _ _ _) (ints_two _ _) (by decide) (by unfold maxLen; omega) (by omega) (by simp; omega) _ rfl ?_; intro g9 cap9 w9 hown9 hg9 hl9 hlt9))
                  all_goals
                    have HK9 : Hid (CdAt (w.heap.size + 1) (w.heap.size + 1) C.length (teK C i P (k + 1)) (.slice av Q.1.length cv) (.slice (some ⟨g9, 0, none⟩) (Q.2.length + 2) cap9) w9) := (by
                      rw [HNE.out]
                      exact (HK5.out.drew.any (grown_none (World.grownBy_alloc W5.drew _ none))).code (xs := [(r : Int), (y : Int)]) (k := Q.2.length + 2) (by simp) (by simpa [intsV] using hown9) hg9 hl9 rfl : CdAt (w.heap.size + 1) (w.heap.size + 1) C.length (teK C i P (k + 1)) (.slice av Q.1.length cv) (.slice (some ⟨g9, 0, none⟩) (Q.2.length + 2) cap9) w9)
                    have HX9 : Hid (w9.heap[w.heap.size]? = some (.cells #[.slice (some ⟨b, off, none⟩) C.length cap, .int .i64 loops] 35 (0, 0)) ∧ Below w.heap.size w w9) := ⟨(hg9.block _ (by have := HX5.out.2.size; simp; omega) (fun e => by have := (HCO5.out.lt w.heap.size e.symm).1; omega)).trans (alloc_old HX5.out.1), (HX5.out.2.drew.alloc (show w.heap.size ≤ W5.heap.size by omega) _).grown hg9 (by simp; omega) (fun q hq => by have := (HCO5.out.lt q hq).1; omega)⟩
                    clear hown9 hg9 hl9 hlt9 n0 n1 n3
                    go_wp2
                    go_roundw
                  all_goals first
                    | (simp only [intOf]; omega)
                    | exact ⟨k + 1, by omega, by go_num, HK9.out, HX9.out⟩
                · have en : nuM Q.1 x = -1 := by unfold nuM; rw [if_neg hxq]
                  rw [en] at n2
                  have z2 := HK5w.out.num.frozenAt x
                  have hidx : (Q.1 ++ [x]).idxOf x = Q.1.length := by rw [List.idxOf_append, if_neg hxq]; simp
                  rw [if_neg hxq, hidx] at HNE
                  clear en hidx
                  obtain ⟨pt1, pt2, pt3, pt4⟩ := HK5w.out.put (x := x)
                  have HU1 : Hid (((w5.setCell ⟨w.heap.size + 1, x, none⟩ (.int .i64 (Q.1.length : Nat))).alloc (.cells #[.int .i64 x, .int .i64 y] 133)).ownsRow (w.heap.size + 1) 3 1 (.slice (some ⟨w.heap.size + 1, 0, none⟩) C.length C.length) C.length (intsV ((mapI C.length (nuM Q.1)).set x (Q.1.length : Int)))) := pt1.alloc _
                  have HU2 : Hid (((w5.setCell ⟨w.heap.size + 1, x, none⟩ (.int .i64 (Q.1.length : Nat))).alloc (.cells #[.int .i64 x, .int .i64 y] 133)).ownsRow (w.heap.size + 1) 3 1 (.slice av Q.1.length cv) Q.1.length (nats Q.1)) := pt2.alloc _
                  have HU3 : Hid (((w5.setCell ⟨w.heap.size + 1, x, none⟩ (.int .i64 (Q.1.length : Nat))).alloc (.cells #[.int .i64 x, .int .i64 y] 133)).ownsRow (w.heap.size + 1) 3 1 (.slice au Q.2.length cu) Q.2.length (intsV Q.2)) := pt3.alloc _
                  have hsx : ((w5.setCell ⟨w.heap.size + 1, x, none⟩ (.int .i64 (Q.1.length : Nat))).alloc (.cells #[.int .i64 x, .int .i64 y] 133)).heap.size = w5.heap.size + 1 := by simp
                  have HU4 : Hid (((w5.setCell ⟨w.heap.size + 1, x, none⟩ (.int .i64 (Q.1.length : Nat))).alloc (.cells #[.int .i64 x, .int .i64 y] 133)).heap[w5.heap.size]? = some (.cells #[.int .i64 x, .int .i64 y] 133 (0, 0))) := alloc_at (by simp)
                  have HU5 : Hid (((w5.setCell ⟨w.heap.size + 1, x, none⟩ (.int .i64 (Q.1.length : Nat))).alloc (.cells #[.int .i64 x, .int .i64 y] 133)).heap[w.heap.size]? = some (.cells #[.slice (some ⟨b, off, none⟩) C.length cap, .int .i64 loops] 35 (0, 0)) ∧ Below w.heap.size w ((w5.setCell ⟨w.heap.size + 1, x, none⟩ (.int .i64 (Q.1.length : Nat))).alloc (.cells #[.int .i64 x, .int .i64 y] 133))) := ⟨alloc_old ((pt4.block _ (by omega) (fun e => by have := Option.some.inj e; omega)).trans HXW.out.1), (HXW.out.2.grown pt4 (by omega) (fun q hq => by have := Option.some.inj hq; omega)).alloc (by simp; omega) _⟩
                  have hqo := HK5w.out.ord.lt
                  have HQO : Hid (∀ q, (Value.slice av Q.1.length cv).ownBlock = some q → w.heap.size + 1 ≤ q ∧ q < w5.heap.size) := hqo
                  clear pt1 pt2 pt3 pt4 hqo
                  go_wp2_with (first | (at_builtin; refine wpList_append_lies _ rfl _ _ 52 rfl (w.heap.size + 1) 3 i0 (.int .i64 0) 1 8 Try.underlying52 hi hz0 hz1 hz2 rfl (by decide) _ Q.1.length (nats Q.1) rfl (HU2.out.alloc _) ⟨w5.heap.size + 1, 0, none⟩ 1 1 [.int .i64 x] rfl rfl (by rw [← hsx]; exact new_cell1 _ _ _) (int_one _) (by decide) (by unfold maxLen; omega) (by omega) (by simp; omega) _ rfl ?_; intro g8 cap8 w8 hown8 hg8 hl8 hlt8; refine Hid.out ?_))
                  refine Lib.hid ?_
                  have HK8 : Hid (CdAt (w.heap.size + 1) (w.heap.size + 1) C.length (Q.1 ++ [x], Q.2) (.slice (some ⟨g8, 0, none⟩) (Q.1.length + 1) cap8) (.slice au Q.2.length cu) w8) := CdAt.order (W := ((w5.setCell ⟨w.heap.size + 1, x, none⟩ (.int .i64 (Q.1.length : Nat))).alloc (.cells #[.int .i64 x, .int .i64 y] 133)).alloc (.cells #[.int .i64 x] 3)) (vo := .slice av Q.1.length cv) hxq (by simp) (HU1.out.alloc _) (HU3.out.alloc _) HK5w.out.oN HK5w.out.cN HK5w.out.oc (by simpa [nats] using hown8) hg8 hl8 rfl
                  have hO8 : w8.heap[w5.heap.size]? = some (.cells #[.int .i64 x, .int .i64 y] 133 (0, 0)) := (hg8.block _ (by simp; omega) (fun e => by have := (HQO.out _ e.symm).2; omega)).trans (alloc_old HU4.out)
                  have HX8' : Hid (w8.heap[w.heap.size]? = some (.cells #[.slice (some ⟨b, off, none⟩) C.length cap, .int .i64 loops] 35 (0, 0)) ∧ Below w.heap.size w w8) := ⟨(hg8.block _ (by simp; omega) (fun e => by have := (HQO.out _ e.symm).1; omega)).trans (alloc_old HU5.out.1), (HU5.out.2.alloc (by simp; omega) _).grown hg8 (by simp; omega) (fun q hq => by have := (HQO.out _ hq).1; omega)⟩
                  have hs8 : w5.heap.size + 2 ≤ w8.heap.size := by have := hg8.size; simpa using this
                  have m0 : w8.cell? ⟨w5.heap.size, 0, none⟩ = some (.int .i64 x) := block_cell hO8 rfl
                  have m1 : w8.cell? ⟨w5.heap.size, 1, none⟩ = some (.int .i64 y) := block_cell hO8 rfl
                  have m3 := HK8.out.num.cellAt x (by omega)
                  have enx : nuM (Q.1 ++ [x]) x = (Q.1.length : Int) := by unfold nuM; rw [if_pos (by simp), List.idxOf_append, if_neg hxq]; simp
                  rw [intsV_get _ x (by rw [mapI_len]; exact hxl), mapI_at _ _ _ hxl, enx] at m3
                  have hlN8 : w.heap.size + 1 < w8.heap.size := by omega
                  have hlO8 : w5.heap.size < w8.heap.size := by omega
                  have HCO8 : Hid (w8.drew.ownsRow (w.heap.size + 1) 3 1 (.slice au Q.2.length cu) Q.2.length (intsV Q.2)) := HK8.out.cod
                  clear hown8 hg8 hl8 hlt8 hO8 enx n0 n1 n2 z2
                  go_wp2
                  go_region_law (first
                    | (refine step_append_lies _ rfl (.tmp 80) (.tmp 88) 52 rfl (w.heap.size + 1) 3 i0 (.int .i64 0) 1 8 Try.underlying52 hi hz0 hz1 hz2 rfl (by decide) _ Q.2.length (intsV Q.2) (by simp [Act.eval]) (HCO8.out.alloc _) ⟨w8.drew.heap.size, 0, none⟩ 2 2 [.int .i64 (Q.1.length : Nat), .int .i64 y] (by simp [Act.eval]) rfl (cells_two _ _ _ _) (ints_two _ _) (by decide) (by unfold maxLen; omega) (by omega) (by simp; omega) _ rfl ?_; intro g9 cap9 w9 hown9 hg9 hl9 hlt9))
                  all_goals
                    have HK9 : Hid (CdAt (w.heap.size + 1) (w.heap.size + 1) C.length (teK C i P (k + 1)) (.slice (some ⟨g8, 0, none⟩) (Q.1.length + 1) cap8) (.slice (some ⟨g9, 0, none⟩) (Q.2.length + 2) cap9) w9) := (by
                      rw [HNE.out]
                      exact (HK8.out.drew.any (grown_none (World.grownBy_alloc w8.drew _ none))).code (xs := [(Q.1.length : Int), (y : Int)]) (k := Q.2.length + 2) (by simp) (by simpa [intsV] using hown9) hg9 hl9 rfl : CdAt (w.heap.size + 1) (w.heap.size + 1) C.length (teK C i P (k + 1)) (.slice (some ⟨g8, 0, none⟩) (Q.1.length + 1) cap8) (.slice (some ⟨g9, 0, none⟩) (Q.2.length + 2) cap9) w9)
                    have HX9 : Hid (w9.heap[w.heap.size]? = some (.cells #[.slice (some ⟨b, off, none⟩) C.length cap, .int .i64 loops] 35 (0, 0)) ∧ Below w.heap.size w w9) := ⟨(hg9.block _ (by simp; omega) (fun e => by have := (HCO8.out.lt w.heap.size e.symm).1; omega)).trans (alloc_old HX8'.out.1), (HX8'.out.2.drew.alloc (show w.heap.size ≤ w8.heap.size by omega) _).grown hg9 (by simp; omega) (fun q hq => by have := (HCO8.out.lt q hq).1; omega)⟩
                    clear hown9 hg9 hl9 hlt9 m0 m1 m3
                    go_wp2
                    go_roundw
                  all_goals first
                    | (simp only [intOf]; omega)
                    | exact ⟨k + 1, by omega, by go_num, HK9.out, HX9.out⟩
              · obtain rfl : k = 4 := by omega
                go_wp2
                go_roundw
                case rel =>
                  refine ⟨i + 1, ?_, by go_num, ?_⟩
                  · rw [HI1.out]; have := (HPR.out 4).length_le; omega
                  · rw [HI1.out]; exact hkd.out
                case measure => simp only [intOf]; omega
        · have hie : (teI C st i).1.length = i := by omega
          have HTI : Hid (te C st = teI C st i) := HTE.out i hie
          have hdi : decide ((i : Int) < ((teI C st i).1.length : Int)) = false := decide_eq_false (by omega)
          have hdi2 : decide (i < (teI C st i).1.length) = false := decide_eq_false (by omega)
          go_wp2
          go_ret2
          refine ⟨_, _, rfl, ?_, ?_, hcd.out.2.2⟩
          · rw [HTI.out]; exact own_low hcd.out.1.cod (by omega)
          · rw [HTI.out]; exact own_low hcd.out.1.ord (by omega)
end Go.Proofs.Ytdbpiggohncjiaa
