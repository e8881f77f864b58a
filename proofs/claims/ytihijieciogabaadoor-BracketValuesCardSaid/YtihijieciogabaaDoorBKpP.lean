/- Several texts of the proof, one behind the other. -/
import Derived.Test.YtihijieciogabaaDoorBKq
import Derived.Test.YtihijieciogabaaDoorBK8
/- The walk of ref.ringPower. -/
namespace Go.Proofs.YtihijieciogabaaDoor.Poly
open Go.RowKit Go.Maps

theorem dlA_in {f : Int → Int} {K : Nat} (h : InA f K) : InA (dlA f) (K + 2) := h.dl

set_option maxHeartbeats 4000000 in
set_option maxRecDepth 100000 in
theorem ringPower_any (n : Nat) (w : World) (hn : n ≤ 39) :
    Calls Tryd.prog 22 #[.int .i64 (n : Nat)] w fun e w' => ∃ v l, e = .returned v ∧ PolyC w' w'.heap.size v l ∧ Canon l (dlN n oneA) ∧ Below w.heap.size w w' := by
  obtain ⟨Z, hZ⟩ : ∃ Z, Z = w.alloc (.cells #[.int .i64 0, .int .i64 1] 56) := ⟨_, rfl⟩
  have HZ := hid_mkP hZ
  have BZ : Hid (Below w.heap.size w Z) := (by rw [hZ]; exact (Below.refl _ _).alloc (Nat.le_refl _) _ : Below w.heap.size w Z)
  have hkZ : Z.heap[w.heap.size]? = some (.cells #[.int .i64 0, .int .i64 1] 56 (0, 0)) := by rw [hZ]; exact heap_alloc_new _ _
  have sZ : w.heap.size < Z.heap.size := by rw [hZ]; simp
  clear hZ
  go_enter Tryd.func22, Tryd.ntmps22
  go_wp2
  rw [← HZ.out]
  have HP0 : Hid (PolyC Z Z.heap.size (.slice (some ⟨w.heap.size, 0, none⟩) 1 1) [(0, 1)]) := (⟨Or.inr (Or.inr ⟨w.heap.size, 0, 1, rfl, sZ, fun i hi => by
    have hi2 : i < 1 := hi
    match i, hi2 with
    | 0, _ => exact ⟨block_cell hkZ rfl, block_cell hkZ rfl⟩⟩), _, _, _, rfl, Nat.le_refl _, by unfold maxLen; omega⟩ : PolyC Z Z.heap.size (.slice (some ⟨w.heap.size, 0, none⟩) 1 1) [(0, 1)])
  have HC0 : Hid (Canon [(0, 1)] (dlN 0 oneA)) := (⟨by simp, fun x c => by
    show (x, c) ∈ [((0 : Int), (1 : Int))] ↔ ((if x = 0 then (1 : Int) else 0) = c ∧ c ≠ 0)
    simp only [List.mem_singleton, Prod.mk.injEq]
    by_cases e : x = 0
    · rw [if_pos e]; omega
    · rw [if_neg e]; omega⟩ : Canon [(0, 1)] (dlN 0 oneA))
  clear hkZ sZ
  go_loopw [3, 4] (fun v3 v4 wr => ∃ (k : Nat) (l : List (Int × Int)), k ≤ n ∧ v4 = .int .i64 (k : Nat) ∧ Hid (PolyC wr wr.heap.size v3 l) ∧ Hid (Canon l (dlN k oneA)) ∧ Hid (Below w.heap.size w wr)) (fun _ v4 _ => n - (intOf v4).toNat)
  case atStart => exact ⟨0, [(0, 1)], Nat.zero_le _, rfl, HP0.out, HC0.out, BZ.out⟩
  case round =>
    clear HP0 HC0 BZ HZ
    rename World => W1
    obtain ⟨k, l, hk, rfl, hP, hC, hb⟩ := hrel
    by_cases hlt : k < n
    · have hii : (k : Int) < (n : Int) := by omega
      have HPR : Hid (∀ g W, Below W1.heap.size W1 W → W.heap[g]? = some (.cells #[.int .i64 (-2), .int .i64 (-1), .int .i64 2, .int .i64 (-1)] 56 (0, 0)) → Calls Tryd.prog 39 #[u3, .slice (some ⟨g, 0, none⟩) 2 2] W fun e w' => ∃ v l, e = .returned v ∧ PolyC w' w'.heap.size v l ∧ Canon l (dlN (k + 1) oneA) ∧ Below W.heap.size W w') := fun g W hW hg => by
        have hcan : Canon (prodTo l rgT l.length) (dlN (k + 1) oneA) := by
          have := prodTo_canon l rgT l.length (Nat.le_refl _)
          rw [List.take_length] at this
          refine canon_congr this fun y => ?_
          rw [prodL_comm, prodL_congr rgT _ _ (canon_coefB hC.out)]
          exact congrFun (ring_dl (dlN k oneA)) y
        have hPW := hP.out.up hW
        obtain ⟨a1, cap1, e1, hp1⟩ := hPW.1.slice
        subst e1
        rcases Nat.eq_zero_or_pos l.length with h0 | h0
        · have e0 : l = [] := List.length_eq_zero_iff.1 h0
          subst e0
          refine (prod_none1 a1 cap1 _ W).mono ?_
          rintro e w' ⟨rfl, hb'⟩
          exact ⟨_, [], rfl, ⟨Or.inl ⟨rfl, rfl⟩, none, 0, 0, rfl, Nat.le_refl _, Nat.zero_le _⟩, hcan, hb'⟩
        · obtain ⟨b1, off1, rfl, hlt1, hT1⟩ := hp1 h0
          have hin : InA (dlN k oneA) (2 * k) := by have := InA.one.dlN k; simpa using this
          have hsup := fun y => dl_sup k (by omega) y
          have hlen := canon_len1 hC.out (2 * k) hin
          have htm := canon_terms hC.out hin hsup
          refine (prodR_some b1 off1 cap1 g 0 2 l rgT W (by omega) (fun t ht => by have := htm t ht; omega) (by decide) (fun t ht => by
            simp only [rgT, List.mem_cons, List.not_mem_nil, or_false] at ht
            rcases ht with rfl | rfl <;> simp) (fun i k' hi hk' => rows_bd hC.out hin (by omega) hsup (by decide) i k' hi hk') hlt1 hT1 (Array.getElem?_eq_some_iff.1 hg).1 (fun i hi => by
            have hi2 : i < 2 := hi
            match i, hi2 with
            | 0, _ => exact ⟨block_cell hg rfl, block_cell hg rfl⟩
            | 1, _ => exact ⟨block_cell hg rfl, block_cell hg rfl⟩)).mono ?_
          rintro e w' ⟨v, rfl, hPv, hb'⟩
          exact ⟨v, _, rfl, hPv, hcan, hb'⟩
      obtain ⟨X, hX⟩ : ∃ X, W1.alloc (.cells #[.int .i64 (-2), .int .i64 (-1), .int .i64 2, .int .i64 (-1)] 56) = X := ⟨_, rfl⟩
      have HX := hid_mkP hX
      have BX : Hid (Below W1.heap.size W1 X) := (by rw [← hX]; exact (Below.refl _ _).alloc (Nat.le_refl _) _ : Below W1.heap.size W1 X)
      have KX : Hid (X.heap[W1.heap.size]? = some (.cells #[.int .i64 (-2), .int .i64 (-1), .int .i64 2, .int .i64 (-1)] 56 (0, 0))) := (by rw [← hX]; exact heap_alloc_new _ _ : X.heap[W1.heap.size]? = some (.cells #[.int .i64 (-2), .int .i64 (-1), .int .i64 2, .int .i64 (-1)] 56 (0, 0)))
      clear hX
      go_wp2_with (go_at_call 39; rw [HX.out]; refine (HPR.out _ _ BX.out KX.out).mono ?_; rintro e9 w5 ⟨v5, l5, rfl, hP5, hC5, hb5⟩)
      have HP5 := hid_mkP hP5
      have HC5 := hid_mkP hC5
      have HB5 := hid_mkP (hb.out.trans ((BX.out.trans (hb5.mono BX.out.size)).mono hb.out.size))
      clear hP5 hC5 hb5
      go_roundw
      case rel => exact ⟨k + 1, l5, by omega, by go_num, HP5.out, HC5.out, HB5.out⟩
      case measure => simp only [intOf]; omega
    · obtain rfl : k = n := by omega
      go_wp2
      go_ret
      exact ⟨_, l, rfl, hP.out, hC.out, hb.out⟩
end Go.Proofs.YtihijieciogabaaDoor.Poly
/- The walk of bracket.sums.all. -/
namespace Go.Proofs.YtihijieciogabaaDoor.Poly
open Go.RowKit Go.Maps

theorem WkV.kept {W W' : World} {c n K g : Nat} {f : Int → Int} (h : WkV W W.heap.size (.map (some c)) n K f) (hg : W.grownBy W' (some g)) (hc : c ≠ g) : WkV W' W'.heap.size (.map (some c)) n K f := by
  rcases h with ⟨e, -⟩ | ⟨c', D', e, hlt, ho, hk, hcf⟩
  · cases e
  · cases e
    exact Or.inr ⟨c, D', rfl, Nat.lt_of_lt_of_le hlt hg.size, ho.kept hg (fun e => hc (Option.some.inj e)), hk, hcf⟩

set_option maxHeartbeats 8000000 in
set_option maxRecDepth 100000 in
theorem all_any (C : List Cr) (c0 k b n KK : Nat) (D : DataW Unit) (w : World) (hc0 : c0 ≤ 16) (hk : k ≤ 12) (hKb : KK ≤ 92) (hS : SumD w 0 w.heap.size b n KK (2 * KK + 1) (mS C c0 k) D) (hcv : ∀ s l, s < 2 ^ k → keyOf Tryd.prog 64 (tiV (kyS C s k)) = some l → Maps.has D l = true) :
    Calls Tryd.prog 31 #[.map (some b)] w fun e w' => ∃ c : Nat, e = .returned (.map (some c)) ∧ WkV w' w'.heap.size (.map (some c)) (2 * KK + 1) KK (allS C c0 k) ∧ Below w.heap.size w w' := by
  have hbw := hS.own.lt
  have hp52 : 2 ^ (c0 + 3 * k) ≤ 2 ^ 52 := Nat.pow_le_pow_right (by omega) (by omega)
  have HMB : Hid (∀ T y, (mS C c0 k T y).natAbs ≤ 1000000000000000000) := fun T y => Nat.le_trans (m_bd C c0 k T y) (Nat.le_trans hp52 (by decide))
  have HUB : Hid (∀ (dn : List Nat → Bool) (y : Int), (allG C c0 k dn y).natAbs ≤ 1000000000000000000) := fun dn y => Nat.le_trans (allG_bd C c0 k dn y) (Nat.le_trans hp52 (by decide))
  obtain ⟨kf, hkf⟩ : ∃ kf : List Nat → Option Lit, ∀ T, kf T = keyOf Tryd.prog 64 (tiV T) := ⟨_, fun _ => rfl⟩
  have HKF := hid_mkP hkf
  have HS := hid_mkP hS
  have HCV := hid_mkP hcv
  have hmm := mkW
  clear hp52 hS hcv hkf
  obtain ⟨Z, hZ⟩ : ∃ Z, Z = w.alloc (.map #[] 0) := ⟨_, rfl⟩
  have HZ := hid_mkP hZ
  have sZ : Z.heap.size = w.heap.size + 1 := by rw [hZ]; simp
  have BZ : Hid (Below w.heap.size w Z) := (by rw [hZ]; exact (Below.refl _ _).alloc (Nat.le_refl _) _ : Below w.heap.size w Z)
  have WZ : Hid (Z.ownsMap Tryd.prog 3 (plainElem Tryd.prog 3) w.heap.size 0 (.map [] : DataW Unit)) := (by rw [hZ]; exact World.ownsMap_made _ _ _ _ : Z.ownsMap Tryd.prog 3 (plainElem Tryd.prog 3) w.heap.size 0 (.map [] : DataW Unit))
  have OZ : Hid (Z.ownsMap Tryd.prog 64 mapR b n D) := (HS.out.on BZ.out hbw).own
  clear hZ
  go_enter Tryd.func31, Tryd.ntmps31
  go_upto_region 2 with (fail)
  rw [← HZ.out]
  go_wp2_with (first
    | (at_range; refine wpList_range_own _ rfl _ 67 rfl 64 47 lawT Tryd.underlying67 mapR b n _ rfl OZ.out ?_; intro w0 hrg0 hg0 hs0))
  try go_frame
  rw [sZ] at hrg0 hs0 ⊢
  have B0 : Below w.heap.size w w0 := BZ.out.grown hg0 (by omega) (fun j hj => by cases hj)
  have hW0 : WkV w0 w0.heap.size (.map (some w.heap.size)) (2 * KK + 1) KK (allG C c0 k (dnF kf (Maps.has D))) := by
    refine Or.inr ⟨_, .map [], rfl, by omega, (WZ.out.kept hg0 (by simp)).mono (Nat.zero_le _), (fun x hx => by cases hx), fun y => ?_⟩
    rw [allG_none C c0 k (fun s hs => ?_) y]
    · exact coefOf_none rfl
    · obtain ⟨l, hl⟩ := keyT (good_ky C s k)
      rw [dnF_at ((HKF.out _).trans hl), HCV.out s l hs hl]; rfl
  have HW0 := hid_mkP hW0
  have HB0 := hid_mkP B0
  clear hW0 B0 hg0 WZ OZ BZ HZ sZ
  go_loopw [3, 5] (fun v _ wr => ∃ (left : Lit → Bool) (cnt q : Nat), v = .map (some q) ∧ wr.ranges Tryd.prog 64 mapR b (w.heap.size + 1) n D left cnt ∧ Hid (WkV wr wr.heap.size (.map (some q)) (2 * KK + 1) KK (allG C c0 k (dnF kf left))) ∧ Hid (Below w.heap.size w wr) ∧ w.heap.size + 2 ≤ wr.heap.size ∧ q ≠ w.heap.size + 1)
    (fun _ _ wr => wr.rangeLeft b (w.heap.size + 1))
  case atStart =>
    exact ⟨_, _, w.heap.size, rfl, hrg0, HW0.out, HB0.out, by omega, by omega⟩
  case round =>
    clear hrg0 hs0 HW0 HB0
    rename World => W1
    obtain ⟨left, cnt, q, rfl, hrg, hWK, hBW, hsW, hqn⟩ := hrel
    go_wp2_with (first
      | (at_next; refine wpList_next_ranges _ rfl _ rfl 64 lawT mapR (fun v : Value => v) (fun c : Nat => Value.map (some c)) (fun key _ _ => ⟨key, rfl⟩) (fun v y hv => by obtain ⟨c, e, -⟩ := mapR_inv hv; exact ⟨c, e⟩) b (w.heap.size + 1) n _ _ _ rfl hrg ?_ ?_)
      | go_in)
    · intro hc0' hl0
      go_wp2
      go_ret
      have hall : ∀ T, GoodK T → dnF kf left T = true := fun T hT => by
        obtain ⟨l, hl⟩ := keyT hT
        rw [dnF_at ((HKF.out _).trans hl), hl0]; rfl
      refine ⟨q, rfl, ?_, hBW.out⟩
      have := hWK.out
      rw [allG_all C c0 k fun s _ => hall _ (good_ky C s k)] at this
      exact this
    · intro x c kl yd yp w1 cnt1 hkey hlk hRy hat hrg1 hlt hg1 hs1 hen
      have hhas := Maps.has_true_of_atKey hat
      obtain ⟨T, hGT, hkT⟩ := HS.out.keys kl hhas
      obtain ⟨c', k1, -, k3⟩ := HS.out.vals T kl hGT hkT hhas
      have ec : c = c' := by
        obtain ⟨c2, g1, g2⟩ := mapR_inv hRy
        have := (hat .nil).symm.trans (k1 .nil)
        have g3 : yd = .lit (.int .i64 (c2 : Nat)) := congrArg Prod.fst g2
        rw [g3] at this
        simp only [DataW.lit.injEq, Lit.int.injEq, true_and] at this
        have g1' : c = c2 := by injection g1 with g1; exact Option.some.inj g1
        omega
      subst ec
      have HKT := hid_mkP hkT
      have HLK := hid_mkP hlk
      have HLT := hid_mkP hlt
      have hbw1 : Below w.heap.size w w1 := hBW.out.grown hg1 hBW.out.size (fun j hj => by cases hj; omega)
      have hwk1 := hWK.out.kept hg1 hqn
      have hwc1 := (k3.on hbw1).mono hbw1.size (Nat.le_refl _) (Nat.le_refl _)
      have HPL := hid_mkP (plus_wkG (.map (some q)) (.map (some c)) (2 * KK + 1) (2 * KK + 1) KK _ (mS C c0 k T) w1 (by omega) (by omega) (by omega) (HUB.out _) (HMB.out T) hwk1 hwc1 (by simp))
      have HB1 := hid_mkP hbw1
      have hs1' : W1.heap.size ≤ w1.heap.size := Nat.le_of_eq hs1.symm
      clear hs1 hwk1 hwc1 hbw1 k1 k3 hkey hRy hhas hlk hat hkT
      go_wp2_with (go_at_call 46; refine HPL.out.mono ?_; rintro e9 w5 ⟨rfl, hw5, hb5⟩)
      have hsz5 := hb5.size
      have hrg5 := hrg1.kept (grown_below hb5 none) (by simp) (by simp)
      have HW5 := hid_mkP hw5
      have HB5 := hid_mkP (HB1.out.trans (hb5.mono HB1.out.size))
      clear hw5 hb5
      go_roundw
      case rel =>
        refine ⟨_, cnt1, w1.heap.size, rfl, hrg5, HW5.out.coef fun y => ?_, HB5.out, by omega, by omega⟩
        rw [allG_step C c0 k T (dn := dnF kf left) (by rw [dnF_at ((HKF.out _).trans HKT.out), HLK.out]; rfl) (fun s => dnF_step HKF.out HKT.out _ (good_ky C s k)) y]
      case measure => rw [hrg5.left_eq, hrg.left_eq]; exact HLT.out
end Go.Proofs.YtihijieciogabaaDoor.Poly
