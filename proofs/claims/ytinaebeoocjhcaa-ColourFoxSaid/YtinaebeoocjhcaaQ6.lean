/- The walk of ref.FoxOf. -/
import Derived.Test.YtinaebeoocjhcaaQ5
import Derived.Deep.RegionHeld3
namespace Go.Proofs.Ytinaebeoocjhcaa
open Go.RowKit

theorem take_q {P : Program} {md : Region.Mode} {ops : Array Oper} {Q : Exit → Act → World → Prop} {S : World → Prop} {i : Nat} (d : Nat) {oi : Oper} {v : Value} {fuel : Nat} {listed : Array Bool} {ts : Array Value} {ds : List Deferred} {w : World} (hi : ops[i]? = some oi) (hdst : oi.dst = some d)
    (hs : Region.noSelect ops = true) (hf : Region.free md ops listed i = true) (hr : (Region.ready md ops listed).contains i = true) (hq : ∀ x a w', Q (.panic x) (Act.put a oi.dst v) w' → Q (.panic x) a w') (hy : YieldsIf P ops S oi v { tmps := ts, defers := ds }) (hS : S w)
    (h : wpAnyH P md ops Q S fuel (listed.setIfInBounds i true) { tmps := ts.setIfInBounds d v, defers := ds } w) : wpAnyH P md ops Q S (fuel + 1) listed { tmps := ts, defers := ds } w := by
  refine wpAnyH_take hi hs hf hr hq hy hS ?_
  rw [hdst]
  exact h
/-- The rows that are not used. -/
def unR (n : Nat) (us : List Bool) (T : Nat → Nat → Int) : (Nat → Int) → Prop := fun r => ∃ i, i < n ∧ us.getD i true = false ∧ r = T i
theorem un_congr {p m n c : Nat} {R0 : (Nat → Int) → Prop} {us : List Bool} {T T' : Nat → Nat → Int} (h : Inv p m R0 c (unR n us T)) (e : ∀ i j, i < n → j < m → T' i j = T i j) : Inv p m R0 c (unR n us T') := fun v => by
  have hs : Sp p m (unR n us T') v ↔ Sp p m (unR n us T) v := by
    constructor
    · refine Sp.le fun r hr => ?_
      obtain ⟨i, h1, h2, rfl⟩ := hr
      exact (Sp.sub p m _).mod (T i) (T' i) (fun j hj => by rw [e i j h1 hj]; simp) (Sp.mem ⟨i, h1, h2, rfl⟩)
    · refine Sp.le fun r hr => ?_
      obtain ⟨i, h1, h2, rfl⟩ := hr
      exact (Sp.sub p m _).mod (T' i) (T i) (fun j hj => by rw [e i j h1 hj]; simp) (Sp.mem ⟨i, h1, h2, rfl⟩)
  rw [hs]
  exact h v
theorem un_start (C : List Cr) (p : Nat) : Inv p (ovC C) (eqAll C) 0 (unR C.length (List.replicate C.length false) (eqR C)) := by
  refine Inv.start ?_ ?_
  · rintro r ⟨i, hi, _, rfl⟩
    exact ⟨eqR C i, ⟨i, hi, rfl⟩, fun j _ => by simp⟩
  · rintro r ⟨i, hi, rfl⟩
    exact ⟨_, ⟨i, hi, by simp [List.getD_eq_getElem?_getD, hi], rfl⟩, fun j _ => by simp⟩
/-- One column more, the row at being the first that has a place there. -/
theorem un_piv {p m n c at_ : Nat} {R0 : (Nat → Int) → Prop} {us : List Bool} {T T' : Nat → Nat → Int} (hp : p < 98) (hpr : primeN p = true) (hc : c < m) (ha : at_ < n) (hu : us.getD at_ true = false) (hl : us.length = n) (h : Inv p m R0 c (unR n us T)) (h0 : ¬ (p : Int) ∣ T at_ c)
    (hg : ∀ i, i ≠ at_ → i < n → (p : Int) ∣ T' i c ∧ ∃ k : Int, ∀ j, j < m → (p : Int) ∣ (T i j + k * T at_ j) - T' i j) : Inv p m R0 (c + 1) (unR n (us.set at_ true) T') := by
  obtain ⟨b, hb⟩ := inv_int hp hpr (T at_ c) h0
  have hset : ∀ i, (us.set at_ true).getD i true = false ↔ i ≠ at_ ∧ us.getD i true = false := fun i => by
    simp only [List.getD_eq_getElem?_getD, List.getElem?_set]
    by_cases e : at_ = i
    · subst e; simp [hl, ha]
    · simp [e, Ne.symm e]
  refine h.piv hc (T at_) ⟨at_, ha, hu, rfl⟩ b hb ?_ ?_
  · rintro r' ⟨i, h1, h2, rfl⟩
    obtain ⟨hne, hf⟩ := (hset i).1 h2
    obtain ⟨g1, k, g2⟩ := hg i hne h1
    exact ⟨g1, T i, k, ⟨i, h1, hf, rfl⟩, g2⟩
  · rintro r ⟨i, h1, h2, rfl⟩
    by_cases e : i = at_
    · subst e; exact Or.inl rfl
    · obtain ⟨g1, k, g2⟩ := hg i e h1
      refine Or.inr ⟨T' i, -k, ⟨i, h1, (hset i).2 ⟨e, h2⟩, rfl⟩, fun j hj => ?_⟩
      have d := Int.dvd_neg.2 (g2 j hj)
      have e2 : -(T i j + k * T at_ j - T' i j) = T' i j + -k * T at_ j - T i j := by rw [Int.neg_mul]; omega
      rw [e2] at d
      exact d
/-- So often must a row be added. -/
theorem times_ex {p : Nat} (hp : p < 98) (hpr : primeN p = true) (x y : Int) (hy : ¬ (p : Int) ∣ y) : ∃ t : Nat, t < p ∧ (p : Int) ∣ x + t * y := by
  obtain ⟨b, hb⟩ := inv_int hp hpr y hy
  have hp2 : 2 ≤ p := by have := (Bool.and_eq_true_iff.1 hpr).1; simpa using this
  have h0 : 0 ≤ (-x * b) % (p : Int) := Int.emod_nonneg _ (by omega)
  have h1 : (-x * b) % (p : Int) < p := Int.emod_lt_of_pos _ (by omega)
  obtain ⟨t, ht⟩ : ∃ t : Nat, (-x * b) % (p : Int) = (t : Int) := ⟨((-x * b) % (p : Int)).toNat, by omega⟩
  refine ⟨t, by omega, ?_⟩
  have d1 : (p : Int) ∣ -x * b - t := by rw [← ht]; exact ⟨(-x * b) / p, by have := Int.mul_ediv_add_emod (-x * b) p; omega⟩
  have d2 : (p : Int) ∣ (-x * b - t) * y := Int.dvd_mul_of_dvd_left d1
  have d3 : (p : Int) ∣ -x * (y * b - 1) := Int.dvd_mul_of_dvd_right hb
  have d4 := Int.dvd_sub d3 d2
  have e : -x * (y * b - 1) - (-x * b - t) * y = x + t * y := by
    rw [Int.mul_sub, Int.sub_mul, Int.mul_one]
    have e2 : -x * (y * b) = -x * b * y := by rw [Int.mul_assoc, Int.mul_comm b y]
    rw [e2]; omega
  rw [e] at d4; exact d4

set_option maxHeartbeats 16000000 in
set_option maxRecDepth 100000 in
theorem foxOf_some (a : Option Addr) (cap : Nat) (C : List Cr) (loops : Int) (p : Nat) (w : World) (hp : p < 98) (hpr : primeN p = true) (hm : mayD C loops = true) (hpos : 0 < C.length) (hD : Crs w w.heap.size (.slice a C.length cap) C) :
    Calls Try.prog 49 #[.agg #[.slice a C.length cap, .int .i64 loops], .int .i64 (p : Nat)] w fun e w' => e = .returned (.int .i64 (foxM C loops p)) ∧ Below w.heap.size w w' := by
  obtain ⟨s1, s2, s3, s4⟩ := sizeB_iff (may_size hm)
  obtain ⟨i2, hk, hx0, hx1, hx2⟩ := info_parts infoInt
  obtain ⟨i1, hj, hy0, hy1, hy2⟩ := info_parts infoInts
  obtain ⟨i0, hi, hz0, hz1, hz2⟩ := info_parts infoBool
  have HM : Hid (mayD C loops = true) := hm
  have HPR : Hid (primeN p = true) := hpr
  have hp2 : 2 ≤ p := by have := (Bool.and_eq_true_iff.1 hpr).1; simpa using this
  have HMO : Hid (mostTo (ovL C (2 * C.length)) (2 * C.length) = ovC C) := mostTo_ov (lowM_least (ovE_lt hm)) (fun v h1 h2 => (lowM_least (ovE_lt hm)).pos (fun e he => ⟨(ovE_in hm e he).1.1, (ovE_in hm e he).2.1⟩) h2 h1) _ (Nat.le_refl _)
  have HOLT : Hid (∀ b, 1 ≤ b → b < 2 * C.length + 1 → ovM C b < ovC C) := fun b h1 h2 => ovM_lt hm b h1 h2
  obtain ⟨b, off, rfl, hbw, hC⟩ := crs_some hD hpos
  have HC : Hid (CrossAt w b off C) := hC
  have HD : Hid (Crs w w.heap.size (.slice (some ⟨b, off, none⟩) C.length cap) C) := hD
  have hmc := ovC_le C
  have hrk := rkTo_le p (ovC C) (eqAll C)
  obtain ⟨w0, hw0⟩ : ∃ w0, w0 = w.alloc (.cells #[.slice (some ⟨b, off, none⟩) C.length cap, .int .i64 loops] 24) := ⟨_, rfl⟩
  have HW0 : Hid (w0 = w.alloc (.cells #[.slice (some ⟨b, off, none⟩) C.length cap, .int .i64 loops] 24)) := hw0
  have HB0 : Hid (Below w.heap.size w w0) := (by rw [hw0]; exact (Below.refl _ _).alloc (Nat.le_refl _) _ : Below w.heap.size w w0)
  have hs0 : w0.heap.size = w.heap.size + 1 := by rw [hw0]; simp
  have HT0 : Hid (w0.heap[w.heap.size]? = some (.cells #[.slice (some ⟨b, off, none⟩) C.length cap, .int .i64 loops] 24 (0, 0))) := (by rw [hw0]; exact alloc_at rfl : w0.heap[w.heap.size]? = some (.cells #[.slice (some ⟨b, off, none⟩) C.length cap, .int .i64 loops] 24 (0, 0)))
  have HFX : Hid (foxM C loops p = (ovC C : Int) - (rkTo p (ovC C) (eqAll C) (ovC C) : Int) + loops) := (rfl : foxM C loops p = (ovC C : Int) - (rkTo p (ovC C) (eqAll C) (ovC C) : Int) + loops)
  rw [HFX.out]
  obtain ⟨R0, hR0⟩ : ∃ R0, eqAll C = R0 := ⟨_, rfl⟩
  have HST0 : Hid (Inv p (ovC C) R0 0 (unR C.length (List.replicate C.length false) (eqR C))) := (by rw [← hR0]; exact un_start C p : Inv p (ovC C) R0 0 (unR C.length (List.replicate C.length false) (eqR C)))
  rw [hR0] at hrk ⊢
  obtain ⟨m, hmm⟩ : ∃ m, ovC C = m := ⟨_, rfl⟩
  rw [hmm] at HMO HOLT hmc hrk HST0 ⊢
  clear hw0 hm hpr hD hC hmm hR0 HFX
  go_enter Try.func49, Try.ntmps49
  go_wp2_with (go_at_call 46; rw [← HW0.out]; refine (oversOf_any _ cap C loops _ HM.out (HD.out.up HB0.out)).mono ?_; rintro e9 w1 ⟨v1, rfl, hr1, hb1⟩; refine Hid.out ?_)
  refine Lib.hid ?_
  have HB1 : Hid (Below w0.heap.size w0 w1) := hb1
  have HR1 : Hid (w1.ownsRow w0.heap.size 3 1 v1 (2 * C.length) (nats (ovL C (2 * C.length)))) := hr1
  rcases hr1.2 with ⟨_, h0⟩ | ⟨gv, cv, cur, rfl, _⟩
  · omega
  clear hr1 hb1
  have HMC : Hid (∀ W, Slots W W.heap.size (.slice (some ⟨gv, 0, none⟩) (2 * C.length) cv) (nats (ovL C (2 * C.length))) → Calls Try.prog 98 #[.slice (some ⟨gv, 0, none⟩) (2 * C.length) cv] W fun e w' => e = .returned (.int .i64 (m : Nat)) ∧ Below W.heap.size W w') := fun W hW => by
    have h := mostOf_any _ (ovL C (2 * C.length)) m W (by omega) (by rw [ovL_len]; omega) (fun x hx => by
      obtain ⟨i, hi, rfl⟩ := List.mem_map.1 hx
      have := List.mem_range.1 hi
      exact HOLT.out (i + 1) (by omega) (by omega)) hW
    rw [ovL_len, HMO.out] at h
    exact h
  go_wp2_with (go_at_call 98; refine (HMC.out _ (slots_of_own HR1.out)).mono ?_; rintro e9 V ⟨rfl, hb2⟩; refine Hid.out ?_)
  refine Lib.hid ?_
  have HBV : Hid (Below w0.heap.size w0 V) := HB1.out.trans (hb2.mono HB1.out.size)
  have HRV : Hid (V.ownsRow w0.heap.size 3 1 (.slice (some ⟨gv, 0, none⟩) (2 * C.length) cv) (2 * C.length) (nats (ovL C (2 * C.length)))) := own_any HR1.out (grown_below hb2 none)
  clear hb2 HR1 HB1 HMC HD
  have HVD : Hid (∀ W, Below V.heap.size V W → W.cell? ⟨w.heap.size, 0, none⟩ = some (.slice (some ⟨b, off, none⟩) C.length cap) ∧ W.cell? ⟨w.heap.size, 1, none⟩ = some (.int .i64 loops) ∧ CrossAt W b off C ∧ (∀ y, y < 2 * C.length → W.cell? ⟨gv, y, none⟩ = some (.int .i64 (ovM C (y + 1) : Nat)))) := fun W hW => by
    have hsV := HBV.out.size
    have q := ((hW.block _ (by omega)).trans ((HBV.out.block _ (by omega)).trans HT0.out))
    have hg := HRV.out.lt gv rfl
    refine ⟨block_cell q rfl, block_cell q rfl, ((HC.out.on HB0.out hbw).on HBV.out (by omega)).on hW (by omega), fun y hy => ?_⟩
    refine bcell hW hg.2 ?_
    rw [HRV.out.cellAt y (by omega), nats_get _ y (by rw [ovL_len]; exact hy)]
    simp [ovL, List.getD_eq_getElem?_getD, hy]
  have hsV : w.heap.size + 1 ≤ V.heap.size := by have := HBV.out.size; omega
  have HBW : Hid (Below w.heap.size w V) := HB0.out.trans (HBV.out.mono (by omega))
  have hgvV := (HRV.out.lt gv rfl).2
  clear HT0 HC HRV HBV HB0 HW0
  go_wp2
  go_loopw [7, 8] (fun v7 v8 wr => ∃ (k : Nat) (gs : Nat → Nat), k ≤ C.length ∧ v8 = .int .i64 (k : Nat) ∧ Hid (TabP V.heap.size k m gs (eqR C) v7 wr ∧ Below V.heap.size V wr)) (fun _ v8 _ => C.length - (intOf v8).toNat)
  case atStart => exact ⟨0, fun _ => 0, Nat.zero_le _, rfl, TabP.nil _ _ _ _ _, Below.refl _ _⟩
  case round =>
    rename World => W1
    obtain ⟨k, gs, hkn, rfl, hp1⟩ := hrel
    obtain ⟨av, cv2, rfl⟩ := own_capS hp1.out.1.outer
    obtain ⟨q0, q1, q2, q3⟩ := HVD.out W1 hp1.out.2
    have hs1 := hp1.out.2.size
    by_cases hil : k < C.length
    · obtain ⟨e0, e1, e2, e3, e4⟩ := q2 k hil
      have fa := may_fit HM.out k 0 hil (by omega)
      have fb := may_fit HM.out k 1 hil (by omega)
      have fc := may_fit HM.out k 2 hil (by omega)
      have HX : Hid ((C.getD k Cr.none).arc 0 = (C.getD k Cr.none).a ∧ (C.getD k Cr.none).arc 1 = (C.getD k Cr.none).b ∧ (C.getD k Cr.none).arc 2 = (C.getD k Cr.none).c) := ⟨rfl, rfl, rfl⟩
      have fa1 := fa.1
      have fa2 := fa.2.1
      have fb1 := fb.1
      have fb2 := fb.2.1
      have fc1 := fc.1
      have fc2 := fc.2.1
      rw [HX.out.1] at fa1 fa2
      rw [HX.out.2.1] at fb1 fb2
      rw [HX.out.2.2] at fc1 fc2
      obtain ⟨xa, hxa⟩ : ∃ x : Nat, (C.getD k Cr.none).a = (x : Int) := ⟨(C.getD k Cr.none).a.toNat, by omega⟩
      obtain ⟨xb, hxb⟩ : ∃ x : Nat, (C.getD k Cr.none).b = (x : Int) := ⟨(C.getD k Cr.none).b.toNat, by omega⟩
      obtain ⟨xc, hxc⟩ : ∃ x : Nat, (C.getD k Cr.none).c = (x : Int) := ⟨(C.getD k Cr.none).c.toNat, by omega⟩
      obtain ⟨cd, hcd⟩ : ∃ z, (C.getD k Cr.none).d = z := ⟨_, rfl⟩
      obtain ⟨cp, hcp⟩ : ∃ z, (C.getD k Cr.none).plus = z := ⟨_, rfl⟩
      rw [hxa] at e0 fa1 fa2
      rw [hxb] at e1 fb1 fb2
      rw [hxc] at e2 fc1 fc2
      rw [hcd] at e3
      rw [hcp] at e4
      have hoa := HOLT.out xa (by omega) (by omega)
      have hob := HOLT.out xb (by omega) (by omega)
      have hoc := HOLT.out xc (by omega) (by omega)
      have HEQ : Hid (eqR C k = eqF (ovM C xa) (ovM C xb) (ovM C xc)) := (by unfold eqR; rw [hxa, hxb, hxc]; rfl : eqR C k = eqF (ovM C xa) (ovM C xb) (ovM C xc))
      obtain ⟨ya, hya⟩ : ∃ y, xa = y + 1 := ⟨xa - 1, by omega⟩
      obtain ⟨yb, hyb⟩ : ∃ y, xb = y + 1 := ⟨xb - 1, by omega⟩
      obtain ⟨yc, hyc⟩ : ∃ y, xc = y + 1 := ⟨xc - 1, by omega⟩
      have hya2 : ya < 2 * C.length := by omega
      have hyb2 : yb < 2 * C.length := by omega
      have hyc2 : yc < 2 * C.length := by omega
      have HOX : Hid (∀ W, Below V.heap.size V W → W.cell? ⟨gv, ya, none⟩ = some (.int .i64 (ovM C xa : Nat)) ∧ W.cell? ⟨gv, yb, none⟩ = some (.int .i64 (ovM C xb : Nat)) ∧ W.cell? ⟨gv, yc, none⟩ = some (.int .i64 (ovM C xc : Nat))) := fun W hW => by
        obtain ⟨_, _, _, q⟩ := HVD.out W hW
        exact ⟨by rw [hya]; exact q ya hya2, by rw [hyb]; exact q yb hyb2, by rw [hyc]; exact q yc hyc2⟩
      obtain ⟨oa, hoa'⟩ : ∃ o, ovM C xa = o := ⟨_, rfl⟩
      obtain ⟨ob, hob'⟩ : ∃ o, ovM C xb = o := ⟨_, rfl⟩
      obtain ⟨oc, hoc'⟩ : ∃ o, ovM C xc = o := ⟨_, rfl⟩
      rw [hoa', hob', hoc'] at HEQ HOX
      rw [hoa'] at hoa
      rw [hob'] at hob
      rw [hoc'] at hoc
      have ewa : IntKind.i64.wrap ((xa : Int) - 1) = (ya : Int) := by rw [IntWalk.i64_in _ (by omega)]; omega
      have ewb : IntKind.i64.wrap ((xb : Int) - 1) = (yb : Int) := by rw [IntWalk.i64_in _ (by omega)]; omega
      have ewc : IntKind.i64.wrap ((xc : Int) - 1) = (yc : Int) := by rw [IntWalk.i64_in _ (by omega)]; omega
      have HVB : Hid ((Value.slice av k cv2).ownBlock ≠ some (W1.heap.size + 1)) := fun e => by have := (hp1.out.1.outer.lt _ e).2; omega
      have HGB : Hid (∀ i, i < k → gs i ≠ W1.heap.size + 1) := fun i hi e => by have := ((hp1.out.1.rows i hi).lt (gs i) rfl).2; omega
      have hbW : b < W1.heap.size := by omega
      have hii : (k : Int) < (C.length : Int) := by omega
      obtain ⟨X0, hX0⟩ : ∃ X, X = W1.alloc (.cells #[.int .i64 (xa : Nat), .int .i64 (xb : Nat), .int .i64 (xc : Nat), .int .i64 cd, .bool cp] 51) := ⟨_, rfl⟩
      have HX0 : Hid (X0 = W1.alloc (.cells #[.int .i64 (xa : Nat), .int .i64 (xb : Nat), .int .i64 (xc : Nat), .int .i64 cd, .bool cp] 51)) := hX0
      have hs0 : X0.heap.size = W1.heap.size + 1 := by rw [hX0]; simp
      have HXB : Hid (X0.heap[W1.heap.size]? = some (.cells #[.int .i64 (xa : Nat), .int .i64 (xb : Nat), .int .i64 (xc : Nat), .int .i64 cd, .bool cp] 51 (0, 0)) ∧ W1.grownBy X0 none) := (by rw [hX0]; exact ⟨alloc_at rfl, World.grownBy_alloc _ _ none⟩ : X0.heap[W1.heap.size]? = some (.cells #[.int .i64 (xa : Nat), .int .i64 (xb : Nat), .int .i64 (xc : Nat), .int .i64 cd, .bool cp] 51 (0, 0)) ∧ W1.grownBy X0 none)
      clear fa fb fc fa1 fa2 fb1 fb2 fc1 fc2 hxa hxb hxc hcd hcp hoa' hob' hoc' hX0 hya hyb hyc q2 q3
      go_upto_region 9 with (first | (at_make; rw [← HX0.out]; refine wpList_make_full _ rfl _ _ 42 rfl V.heap.size 3 i2 (.int .i64 0) 1 Try.underlying42 hk hx0 hx1 .i64 .i64 _ _ m rfl rfl rfl rfl (by rw [hx2]; omega) (by unfold maxLen; omega) (by omega) ?_; intro X1 hrow hg1; refine Hid.out ?_))
      refine Lib.hid ?_
      clear e0 e1 e2 e3 e4
      rw [made_zero, hs0, ← mapI_zero m eqZ (fun _ _ => rfl)] at hrow
      have HS0 : Hid (EqSt V W1.heap.size (W1.heap.size + 1) k m gs (eqR C) (.slice av k cv2) #[.int .i64 (xa : Nat), .int .i64 (xb : Nat), .int .i64 (xc : Nat), .int .i64 cd, .bool cp] eqZ X1) := ⟨hrow, (hg1.block _ (by omega) (by simp)).trans HXB.out.1, (hp1.out.1.any HXB.out.2).any hg1, (hp1.out.2.grown HXB.out.2 hs1 (fun k hk => by cases hk)).grown hg1 (by omega) (fun k hk => by cases hk)⟩
      clear hrow hg1 HXB HX0 hs0 hp1
      go_upto_region 9 with (fail)
      have c0 : X1.cell? ⟨W1.heap.size, 1, none⟩ = some (.int .i64 (xb : Nat)) := block_cell HS0.out.box rfl
      have d0 : X1.cell? ⟨gv, yb, none⟩ = some (.int .i64 (ob : Nat)) := (HOX.out _ HS0.out.bel).2.1
      have r0 : X1.cell? ⟨W1.heap.size + 1, ob, none⟩ = some (.int .i64 (eqZ ob)) := HS0.out.cell ob hob
      have z0 : X1.frozen? ⟨W1.heap.size + 1, ob, none⟩ = false := HS0.out.row.frozenAt ob
      obtain ⟨t0, ht0⟩ : ∃ y : Int, eqZ ob = y := ⟨_, rfl⟩
      have htb0 : -9 ≤ t0 ∧ t0 ≤ 9 := by rw [← ht0]; simp only [eqZ]; (repeat' split) <;> omega
      rw [ht0] at r0
      have w0 : IntKind.i64.wrap (t0 + 2) = t0 + 2 := IntWalk.i64_in _ (by omega)
      have HS1 : Hid (EqSt V W1.heap.size (W1.heap.size + 1) k m gs (eqR C) (.slice av k cv2) #[.int .i64 (xa : Nat), .int .i64 (xb : Nat), .int .i64 (xc : Nat), .int .i64 cd, .bool cp] (eq1 ob) (X1.setCell ⟨W1.heap.size + 1, ob, none⟩ (.int .i64 (t0 + 2)))) := HS0.out.set ob (t0 + 2) (eq1 ob) (fun j hj => by
        rw [← ht0]
        by_cases e : j = ob
        · subst e; simp [eqZ, eq1]
        · simp [eqZ, eq1, e]) (by omega) HVB.out HGB.out
      obtain ⟨X2, hX2⟩ : ∃ X, X = X1.setCell ⟨W1.heap.size + 1, ob, none⟩ (.int .i64 (t0 + 2)) := ⟨_, rfl⟩
      rw [← hX2] at HS1
      have hl0 : W1.heap.size + 1 < X1.heap.size := (HS0.out.row.lt (W1.heap.size + 1) rfl).2
      have hb0 := HS0.out.bel.size
      have HQ0 : Hid (X2 = X1.setCell ⟨W1.heap.size + 1, ob, none⟩ (.int .i64 (t0 + 2))) := hX2
      clear hX2 ht0
      go_upto_region 10 with (fail)
      rw [← HQ0.out]
      clear c0 d0 r0 z0 w0 HS0 HQ0 htb0 hl0 hb0
      have c1 : X2.cell? ⟨W1.heap.size, 0, none⟩ = some (.int .i64 (xa : Nat)) := block_cell HS1.out.box rfl
      have d1 : X2.cell? ⟨gv, ya, none⟩ = some (.int .i64 (oa : Nat)) := (HOX.out _ HS1.out.bel).1
      have r1 : X2.cell? ⟨W1.heap.size + 1, oa, none⟩ = some (.int .i64 ((eq1 ob) oa)) := HS1.out.cell oa hoa
      have z1 : X2.frozen? ⟨W1.heap.size + 1, oa, none⟩ = false := HS1.out.row.frozenAt oa
      obtain ⟨t1, ht1⟩ : ∃ y : Int, (eq1 ob) oa = y := ⟨_, rfl⟩
      have htb1 : -9 ≤ t1 ∧ t1 ≤ 9 := by rw [← ht1]; simp only [eq1]; (repeat' split) <;> omega
      rw [ht1] at r1
      have w1 : IntKind.i64.wrap (t1 - 1) = t1 - 1 := IntWalk.i64_in _ (by omega)
      have HS2 : Hid (EqSt V W1.heap.size (W1.heap.size + 1) k m gs (eqR C) (.slice av k cv2) #[.int .i64 (xa : Nat), .int .i64 (xb : Nat), .int .i64 (xc : Nat), .int .i64 cd, .bool cp] (eq2 oa ob) (X2.setCell ⟨W1.heap.size + 1, oa, none⟩ (.int .i64 (t1 - 1)))) := HS1.out.set oa (t1 - 1) (eq2 oa ob) (fun j hj => by
        rw [← ht1]
        by_cases e : j = oa
        · subst e; simp [eq1, eq2]
        · simp [eq1, eq2, e]) (by omega) HVB.out HGB.out
      obtain ⟨X3, hX3⟩ : ∃ X, X = X2.setCell ⟨W1.heap.size + 1, oa, none⟩ (.int .i64 (t1 - 1)) := ⟨_, rfl⟩
      rw [← hX3] at HS2
      have hl1 : W1.heap.size + 1 < X2.heap.size := (HS1.out.row.lt (W1.heap.size + 1) rfl).2
      have hb1 := HS1.out.bel.size
      have HQ1 : Hid (X3 = X2.setCell ⟨W1.heap.size + 1, oa, none⟩ (.int .i64 (t1 - 1))) := hX3
      clear hX3 ht1
      go_upto_region 11 with (fail)
      rw [← HQ1.out]
      clear c1 d1 r1 z1 w1 HS1 HQ1 htb1 hl1 hb1
      have c2 : X3.cell? ⟨W1.heap.size, 2, none⟩ = some (.int .i64 (xc : Nat)) := block_cell HS2.out.box rfl
      have d2 : X3.cell? ⟨gv, yc, none⟩ = some (.int .i64 (oc : Nat)) := (HOX.out _ HS2.out.bel).2.2
      have r2 : X3.cell? ⟨W1.heap.size + 1, oc, none⟩ = some (.int .i64 ((eq2 oa ob) oc)) := HS2.out.cell oc hoc
      have z2 : X3.frozen? ⟨W1.heap.size + 1, oc, none⟩ = false := HS2.out.row.frozenAt oc
      obtain ⟨t2, ht2⟩ : ∃ y : Int, (eq2 oa ob) oc = y := ⟨_, rfl⟩
      have htb2 : -9 ≤ t2 ∧ t2 ≤ 9 := by rw [← ht2]; simp only [eq2]; (repeat' split) <;> omega
      rw [ht2] at r2
      have w2 : IntKind.i64.wrap (t2 - 1) = t2 - 1 := IntWalk.i64_in _ (by omega)
      have HS3 : Hid (EqSt V W1.heap.size (W1.heap.size + 1) k m gs (eqR C) (.slice av k cv2) #[.int .i64 (xa : Nat), .int .i64 (xb : Nat), .int .i64 (xc : Nat), .int .i64 cd, .bool cp] (eqF oa ob oc) (X3.setCell ⟨W1.heap.size + 1, oc, none⟩ (.int .i64 (t2 - 1)))) := HS2.out.set oc (t2 - 1) (eqF oa ob oc) (fun j hj => by
        rw [← ht2]
        by_cases e : j = oc
        · subst e; simp [eq2, eqF]
        · simp [eq2, eqF, e]) (by omega) HVB.out HGB.out
      obtain ⟨X4, hX4⟩ : ∃ X, X = X3.setCell ⟨W1.heap.size + 1, oc, none⟩ (.int .i64 (t2 - 1)) := ⟨_, rfl⟩
      rw [← hX4] at HS3
      have hl2 : W1.heap.size + 1 < X3.heap.size := (HS2.out.row.lt (W1.heap.size + 1) rfl).2
      have hb2 := HS2.out.bel.size
      have HQ2 : Hid (X4 = X3.setCell ⟨W1.heap.size + 1, oc, none⟩ (.int .i64 (t2 - 1))) := hX4
      clear hX4 ht2
      go_upto_region 12 with (fail)
      rw [← HQ2.out]
      clear c2 d2 r2 z2 w2 HS2 HQ2 htb2 hl2 hb2

      have HROW : Hid (X4.ownsRow V.heap.size 3 1 (.slice (some ⟨W1.heap.size + 1, 0, none⟩) m m) m (intsV (mapI m (eqR C k)))) := (by rw [HEQ.out]; exact HS3.out.row : X4.ownsRow V.heap.size 3 1 (.slice (some ⟨W1.heap.size + 1, 0, none⟩) m m) m (intsV (mapI m (eqR C k))))
      have HTAB : Hid (TabP V.heap.size k m gs (eqR C) (.slice av k cv2) X4) := HS3.out.tab
      have HBEL : Hid (Below V.heap.size V X4) := HS3.out.bel
      have HON : Hid (∀ u ∈ [Value.slice (some ⟨W1.heap.size + 1, 0, none⟩) m m], u.oneCell' = true) := own_oneS HS3.out.row
      have hs2 := HS3.out.bel.size
      have hdk : decide ((k : Int) < (C.length : Int)) = true := by simp; omega
      have hdk2 : decide (k < C.length) = true := by simp; omega
      clear HS3
      go_wp2_with (first
        | (at_builtin; refine wpList_append_own _ rfl _ _ 53 rfl V.heap.size 42 i1 (.slice none 0 0) 1 24 Try.underlying53 hj hy0 hy1 hy2 rfl (by decide) _ _ _ rfl (HTAB.out.outer.alloc _) ⟨X4.heap.size, 0, none⟩ 1 1 [Value.slice (some ⟨W1.heap.size + 1, 0, none⟩) m m] rfl rfl (new_cell1 _ _ _) HON.out (by unfold maxLen; omega) (by omega) (by simp; omega) ?_; intro v8 w8 hown8 hg8 _; refine Hid.out ?_))
      refine Lib.hid ?_
      have hA := HTAB.out.outer.alloc (.cells #[Value.slice (some ⟨W1.heap.size + 1, 0, none⟩) m m] 42)
      have HFIN : Hid (TabP V.heap.size (k + 1) m (fun i => if i = k then W1.heap.size + 1 else gs i) (eqR C) v8 w8 ∧ Below V.heap.size V w8) := ⟨(HTAB.out.any (World.grownBy_alloc _ _ none)).more (HROW.out.alloc _) HGB.out hg8 hown8, (HBEL.out.alloc hs2 _).grown hg8 (by simp; omega) (fun q hq => (hA.lt q hq).1)⟩
      clear hg8 hown8 hA
      obtain ⟨a9, c9, rfl⟩ := own_capS HFIN.out.1.outer
      go_wp2
      go_roundw
      case rel => exact ⟨k + 1, _, by omega, by go_num, HFIN.out⟩
      case measure => simp only [intOf]; omega
    · obtain rfl : k = C.length := by omega
      obtain ⟨gt, tc, et, htc, hTO⟩ := hp1.out.1.whole hpos
      cases et
      have HTO : Hid (TabO V.heap.size gt cv2 C.length m gs (eqR C) W1) := hTO
      have HBE1 : Hid (Below V.heap.size V W1) := hp1.out.2
      clear hTO hp1 q2 q3 HOLT HMO
      go_wp2_with (first | (at_make; refine wpList_make_full _ rfl _ _ 31 rfl V.heap.size 4 i0 (.bool false) 1 Try.underlying31 hi hz0 hz1 .i64 .i64 _ _ C.length rfl rfl rfl rfl (by rw [hz2]; omega) (by unfold maxLen; omega) (by omega) ?_; intro W2 hrow hg2; refine Hid.out ?_))
      refine Lib.hid ?_
      rw [made_false] at hrow
      have HE0 : Hid (∃ (T : Nat → Nat → Int) (us : List Bool), TabO V.heap.size gt cv2 C.length m gs T W2 ∧ W2.ownsRow V.heap.size 4 1 (.slice (some ⟨W1.heap.size, 0, none⟩) C.length C.length) C.length (bools us) ∧ (∀ i j, i < C.length → j < m → -100 ≤ T i j ∧ T i j ≤ 100) ∧ Inv p m R0 0 (unR C.length us T) ∧ Below V.heap.size V W2) := ⟨eqR C, List.replicate C.length false, HTO.out.any hg2, hrow, fun i j _ _ => by have := eqF_in (ovM C (C.getD i Cr.none).a.toNat) (ovM C (C.getD i Cr.none).b.toNat) (ovM C (C.getD i Cr.none).c.toNat) j; unfold eqR; omega, HST0.out, HBE1.out.grown hg2 hs1 (fun q hq => by cases hq)⟩
      clear hrow hg2 HTO HBE1 HST0 q0 q1
      have HS : Hid (rkTo p m R0 0 = 0) := (rfl : rkTo p m R0 0 = 0)
      have hpz : (p : Int) ≠ 0 := by omega
      have hpz2 : ((p : Int) == 0) = false := by simp; omega
      have hpz3 : p ≠ 0 := by omega
      have hpz4 : (p == 0) = false := by simp; omega
      go_wp2
      go_loopw [12, 13] (fun v12 v13 wr => ∃ c : Nat, c ≤ m ∧ v13 = .int .i64 (c : Nat) ∧ v12 = .int .i64 ((m : Int) - (rkTo p m R0 c : Int)) ∧ Hid (∃ (T : Nat → Nat → Int) (us : List Bool), TabO V.heap.size gt cv2 C.length m gs T wr ∧ wr.ownsRow V.heap.size 4 1 (.slice (some ⟨W1.heap.size, 0, none⟩) C.length C.length) C.length (bools us) ∧ (∀ i j, i < C.length → j < m → -100 ≤ T i j ∧ T i j ≤ 100) ∧ Inv p m R0 c (unR C.length us T) ∧ Below V.heap.size V wr)) (fun _ v13 _ => m - (intOf v13).toNat)
      case atStart => exact ⟨0, Nat.zero_le _, rfl, by rw [HS.out]; simp, HE0.out⟩
      case round =>
        clear HE0 HS
        rename World => W3
        obtain ⟨c, hcm, rfl, rfl, hp3⟩ := hrel
        obtain ⟨T, us, hT, hU, hBn, hI, hBl⟩ := hp3.out
        have hrc := hrk c
        by_cases hcl : c < m
        · have HT : Hid (TabO V.heap.size gt cv2 C.length m gs T W3) := hT
          have HU : Hid (W3.ownsRow V.heap.size 4 1 (.slice (some ⟨W1.heap.size, 0, none⟩) C.length C.length) C.length (bools us)) := hU
          have hul : us.length = C.length := by have h := hU.1; rw [bools_len] at h; omega
          have HBn : Hid (∀ i j, i < C.length → j < m → -100 ≤ T i j ∧ T i j ≤ 100) := hBn
          have HI : Hid (Inv p m R0 c (unR C.length us T)) := hI
          have HBl : Hid (Below V.heap.size V W3) := hBl
          obtain ⟨rk, hrk'⟩ : ∃ rk, rkTo p m R0 c = rk := ⟨_, rfl⟩
          have HRK : Hid (rkTo p m R0 c = rk) := hrk'
          rw [hrk'] at hrc ⊢
          have hgu := (hU.lt W1.heap.size rfl).2
          have hgt := (hT.outer.lt gt rfl).2
          have hdc : decide ((c : Int) < (m : Int)) = true := by simp; omega
          have hdc2 : decide (c < m) = true := by simp; omega
          have hsz3 := hBl.size
          clear hT hU hBn hI hBl hp3 hrk'
          go_wp2
          go_loopw [14, 15] (fun v14 v15 wr => ∃ i : Nat, i ≤ C.length ∧ v15 = .int .i64 (i : Nat) ∧ Hid (wr = W3) ∧ ((v14 = .int .i64 (-1) ∧ ∀ q, q < i → us.getD q true = true ∨ (p : Int) ∣ T q c) ∨ (∃ A : Nat, v14 = .int .i64 (A : Nat) ∧ A < i ∧ us.getD A true = false ∧ ¬ (p : Int) ∣ T A c))) (fun _ v15 _ => C.length - (intOf v15).toNat)
          case atStart => exact ⟨0, Nat.zero_le _, rfl, (rfl : W3 = W3), Or.inl ⟨rfl, fun q hq => by omega⟩⟩
          case round =>
            rename World => W4
            obtain ⟨i, hi2, rfl, hw, hsr⟩ := hrel
            have e9 : W4 = W3 := hw.out
            subst e9
            by_cases hil : i < C.length
            · have u0 : W4.cell? ⟨W1.heap.size, i, none⟩ = some (.bool (us.getD i true)) := by
                rw [HU.out.cellAt i (by omega)]; exact bools_get us i (by omega)
              have t1 := HT.out.cellO i hil
              have t2 := HT.out.cellR i c hil hcl
              have hxb := HBn.out i c hil hcl
              have hgi := (HT.out.rows i hil).lt (gs i) rfl
              obtain ⟨x, hx⟩ : ∃ x, T i c = x := ⟨_, rfl⟩
              rw [hx] at t2 hxb
              have hzi : x.tmod (p : Int) = 0 ↔ (p : Int) ∣ T i c := by rw [hx]; exact tmod_zero x p
              have hzb := tmod_abs x (p := p) (by omega)
              obtain ⟨z, hz⟩ : ∃ z, x.tmod (p : Int) = z := ⟨_, rfl⟩
              have HZI : Hid (z = 0 ↔ (p : Int) ∣ T i c) := (by rw [← hz]; exact hzi : z = 0 ↔ (p : Int) ∣ T i c)
              rw [hz] at hzb
              have ewz : IntKind.i64.wrap z = z := IntWalk.i64_in _ (by omega)
              clear hx hzi
              rcases hsr with ⟨rfl, hno⟩ | ⟨A, rfl, hA1, hA2, hA3⟩
              · skip
                cases hbit : us.getD i true with
                | true =>
                  rw [hbit] at u0
                  go_wp2
                  go_roundw
                  case rel => exact ⟨i + 1, by omega, by go_num, trivial, Or.inl ⟨rfl, fun q hq => by
                    by_cases e : q = i
                    · rw [e]; exact Or.inl hbit
                    · exact hno q (by omega)⟩⟩
                  case measure => simp only [intOf]; omega
                | false =>
                  rw [hbit] at u0
                  by_cases hz0 : z = 0
                  · subst hz0
                    go_wp2
                    go_roundw
                    case rel => exact ⟨i + 1, by omega, by go_num, trivial, Or.inl ⟨rfl, fun q hq => by
                      by_cases e : q = i
                      · rw [e]; exact Or.inr (HZI.out.1 rfl)
                      · exact hno q (by omega)⟩⟩
                    case measure => simp only [intOf]; omega
                  · have hz1 : (z == 0) = false := by simp; exact hz0
                    go_wp2
                    go_roundw
                    case rel => exact ⟨i + 1, by omega, by go_num, trivial, Or.inr ⟨i, rfl, by omega, hbit, fun h => hz0 (HZI.out.2 h)⟩⟩
                    case measure => simp only [intOf]; omega
              · skip
                cases hbit : us.getD i true with
                | true =>
                  rw [hbit] at u0
                  go_wp2
                  go_roundw
                  case rel => exact ⟨i + 1, by omega, by go_num, trivial, Or.inr ⟨A, rfl, by omega, hA2, hA3⟩⟩
                  case measure => simp only [intOf]; omega
                | false =>
                  rw [hbit] at u0
                  by_cases hz0 : z = 0
                  · subst hz0
                    go_wp2
                    go_roundw
                    case rel => exact ⟨i + 1, by omega, by go_num, trivial, Or.inr ⟨A, rfl, by omega, hA2, hA3⟩⟩
                    case measure => simp only [intOf]; omega
                  · have hz1 : (z == 0) = false := by simp; exact hz0
                    go_wp2
                    go_roundw
                    case rel => exact ⟨i + 1, by omega, by go_num, trivial, Or.inr ⟨A, rfl, by omega, hA2, hA3⟩⟩
                    case measure => simp only [intOf]; omega
            · obtain rfl : i = C.length := by omega
              rcases hsr with ⟨rfl, hno⟩ | ⟨A, rfl, hA1, hA2, hA3⟩
              · have HNP : Hid (¬ pivP p m R0 c) := fun hpv => by
                  obtain ⟨r, ⟨q, h1, h2, rfl⟩, hr⟩ := (piv_iff HI.out hcl).1 hpv
                  rcases hno q h1 with h3 | h3
                  · rw [h2] at h3; cases h3
                  · exact hr h3
                have HR2 : Hid (rkTo p m R0 (c + 1) = rk) := (by rw [rkTo_no HNP.out, HRK.out] : rkTo p m R0 (c + 1) = rk)
                have HIN : Hid (Inv p m R0 (c + 1) (unR C.length us T)) := HI.out.none hcl (fun r hr => by
                  obtain ⟨q, h1, h2, rfl⟩ := hr
                  rcases hno q h1 with h3 | h3
                  · rw [h2] at h3; cases h3
                  · exact h3)
                go_wp2
                go_roundw
                case rel => exact ⟨c + 1, by omega, by go_num, (by rw [HR2.out]), (⟨T, us, HT.out, HU.out, HBn.out, HIN.out, HBl.out⟩ : ∃ (T : Nat → Nat → Int) (us : List Bool), TabO V.heap.size gt cv2 C.length m gs T W4 ∧ W4.ownsRow V.heap.size 4 1 (.slice (some ⟨W1.heap.size, 0, none⟩) C.length C.length) C.length (bools us) ∧ (∀ i j, i < C.length → j < m → -100 ≤ T i j ∧ T i j ≤ 100) ∧ Inv p m R0 (c + 1) (unR C.length us T) ∧ Below V.heap.size V W4)⟩
                case measure => simp only [intOf]; omega
              · have HPV : Hid (pivP p m R0 c) := (piv_iff HI.out hcl).2 ⟨_, ⟨A, hA1, hA2, rfl⟩, hA3⟩
                have HR2 : Hid (rkTo p m R0 (c + 1) = rk + 1) := (by rw [rkTo_yes HPV.out, HRK.out] : rkTo p m R0 (c + 1) = rk + 1)
                have hrk1 := hrk (c + 1)
                rw [HR2.out] at hrk1
                have hst := HU.out.stored A (.bool true)
                rw [bools_set] at hst
                obtain ⟨X5, hX5⟩ : ∃ X, X = W4.setCell ⟨W1.heap.size, A, none⟩ (.bool true) := ⟨_, rfl⟩
                have HX5 : Hid (X5 = W4.setCell ⟨W1.heap.size, A, none⟩ (.bool true)) := hX5
                have HE2 : Hid (∃ T1, TabO V.heap.size gt cv2 C.length m gs T1 X5 ∧ X5.ownsRow V.heap.size 4 1 (.slice (some ⟨W1.heap.size, 0, none⟩) C.length C.length) C.length (bools (us.set A true)) ∧ (∀ i j, i < C.length → j < m → -100 ≤ T1 i j ∧ T1 i j ≤ 100) ∧ (∀ q j, q < C.length → j < m → q = A ∨ 0 ≤ q → T1 q j = T q j) ∧ (∀ q, q ≠ A → q < 0 → (p : Int) ∣ T1 q c ∧ ∃ k : Int, ∀ j, j < m → (p : Int) ∣ (T q j + k * T A j) - T1 q j) ∧ Below V.heap.size V X5) := (by
                  rw [hX5]
                  refine ⟨T, ⟨HT.out.outer.kept hst.2 (own_ne HT.out.outer HU.out (by decide)), fun q hq => (HT.out.rows q hq).kept hst.2 (own_ne (HT.out.rows q hq) HU.out (by decide)), HT.out.inj⟩, hst.1, HBn.out, fun _ _ _ _ _ => rfl, fun q _ hq => absurd hq (Nat.not_lt_zero _), HBl.out.grown hst.2 hsz3 (fun q hq => by have := Option.some.inj hq; omega)⟩ : ∃ T1, TabO V.heap.size gt cv2 C.length m gs T1 X5 ∧ X5.ownsRow V.heap.size 4 1 (.slice (some ⟨W1.heap.size, 0, none⟩) C.length C.length) C.length (bools (us.set A true)) ∧ (∀ i j, i < C.length → j < m → -100 ≤ T1 i j ∧ T1 i j ≤ 100) ∧ (∀ q j, q < C.length → j < m → q = A ∨ 0 ≤ q → T1 q j = T q j) ∧ (∀ q, q ≠ A → q < 0 → (p : Int) ∣ T1 q c ∧ ∃ k : Int, ∀ j, j < m → (p : Int) ∣ (T q j + k * T A j) - T1 q j) ∧ Below V.heap.size V X5)
                have u0 : W4.cell? ⟨W1.heap.size, A, none⟩ = some (.bool (us.getD A true)) := by
                  rw [HU.out.cellAt A (by omega)]; exact bools_get us A (by omega)
                have z0 : W4.frozen? ⟨W1.heap.size, A, none⟩ = false := HU.out.frozenAt A
                have ewf : IntKind.i64.wrap ((m : Int) - (rk : Int) - 1) = (m : Int) - (rk : Int) - 1 := IntWalk.i64_in _ (by omega)
                have hA0 : ¬ ((A : Int) < 0) := by omega
                clear hst hX5
                go_wp2
                rw [← HX5.out]
                clear u0 z0 HX5
                go_loopw [16] (fun v16 wr => ∃ i : Nat, i ≤ C.length ∧ v16 = .int .i64 (i : Nat) ∧ Hid (∃ T1, TabO V.heap.size gt cv2 C.length m gs T1 wr ∧ wr.ownsRow V.heap.size 4 1 (.slice (some ⟨W1.heap.size, 0, none⟩) C.length C.length) C.length (bools (us.set A true)) ∧ (∀ i j, i < C.length → j < m → -100 ≤ T1 i j ∧ T1 i j ≤ 100) ∧ (∀ q j, q < C.length → j < m → q = A ∨ i ≤ q → T1 q j = T q j) ∧ (∀ q, q ≠ A → q < i → (p : Int) ∣ T1 q c ∧ ∃ k : Int, ∀ j, j < m → (p : Int) ∣ (T q j + k * T A j) - T1 q j) ∧ Below V.heap.size V wr)) (fun v16 _ => C.length - (intOf v16).toNat)
                case atStart => exact ⟨0, Nat.zero_le _, rfl, HE2.out⟩
                case round =>
                  clear HE2
                  rename World => W5
                  obtain ⟨i, hi3, rfl, hp5⟩ := hrel
                  obtain ⟨T1, hT1, hU1, hB1, hs1', hg1', hBl1⟩ := hp5.out
                  have hgt5 := (hT1.outer.lt gt rfl).2
                  by_cases hil : i < C.length
                  · by_cases hiA : i = A
                    · subst hiA
                      have HN : Hid (∃ T1, TabO V.heap.size gt cv2 C.length m gs T1 W5 ∧ W5.ownsRow V.heap.size 4 1 (.slice (some ⟨W1.heap.size, 0, none⟩) C.length C.length) C.length (bools (us.set i true)) ∧ (∀ i j, i < C.length → j < m → -100 ≤ T1 i j ∧ T1 i j ≤ 100) ∧ (∀ q j, q < C.length → j < m → q = i ∨ (i + 1) ≤ q → T1 q j = T q j) ∧ (∀ q, q ≠ i → q < (i + 1) → (p : Int) ∣ T1 q c ∧ ∃ k : Int, ∀ j, j < m → (p : Int) ∣ (T q j + k * T i j) - T1 q j) ∧ Below V.heap.size V W5) := ⟨T1, hT1, hU1, hB1, fun q j h1 h2 h3 => hs1' q j h1 h2 (by omega), fun q h1 h2 => hg1' q h1 (by omega), hBl1⟩
                      have hee : ((i : Int) == (i : Int)) = true := by simp
                      clear hT1 hU1 hB1 hs1' hg1' hBl1 hp5
                      go_wp2
                      go_roundw
                      case rel => exact ⟨i + 1, by omega, by go_num, HN.out⟩
                      case measure => simp only [intOf]; omega
                    · have hee : ((i : Int) == (A : Int)) = false := by simp; omega
                      have hee2 : (i == A) = false := by simp; omega
                      obtain ⟨tm, htm, hdv⟩ := times_ex hp HPR.out (T i c) (T A c) hA3
                      have HDV : Hid ((p : Int) ∣ T i c + (tm : Int) * T A c) := hdv
                      have HE3 : Hid (∃ T2, TabO V.heap.size gt cv2 C.length m gs T2 W5 ∧ W5.ownsRow V.heap.size 4 1 (.slice (some ⟨W1.heap.size, 0, none⟩) C.length C.length) C.length (bools (us.set A true)) ∧ (∀ i j, i < C.length → j < m → -100 ≤ T2 i j ∧ T2 i j ≤ 100) ∧ (∀ q j, q < C.length → j < m → q ≠ i → T2 q j = T1 q j) ∧ (∀ j, j < m → (p : Int) ∣ (T i j + (0 : Nat) * T A j) - T2 i j) ∧ Below V.heap.size V W5) := ⟨T1, hT1, hU1, hB1, fun _ _ _ _ _ => rfl, fun j hj => by rw [hs1' i j hil hj (Or.inr (Nat.le_refl _))]; simp, hBl1⟩
                      have HS1 : Hid (∀ q j, q < C.length → j < m → q = A ∨ i ≤ q → T1 q j = T q j) := hs1'
                      have HG1 : Hid (∀ q, q ≠ A → q < i → (p : Int) ∣ T1 q c ∧ ∃ k : Int, ∀ j, j < m → (p : Int) ∣ (T q j + k * T A j) - T1 q j) := hg1'
                      have hdi : decide ((i : Int) < (C.length : Int)) = true := by simp; omega
                      have hdi2 : decide (i < C.length) = true := by simp; omega
                      clear hT1 hU1 hB1 hs1' hg1' hBl1 hp5 hdv
                      go_wp2
                      go_loopw [17] (fun v17 wr => ∃ t : Nat, t ≤ tm ∧ v17 = .int .i64 (t : Nat) ∧ Hid (∃ T2, TabO V.heap.size gt cv2 C.length m gs T2 wr ∧ wr.ownsRow V.heap.size 4 1 (.slice (some ⟨W1.heap.size, 0, none⟩) C.length C.length) C.length (bools (us.set A true)) ∧ (∀ i j, i < C.length → j < m → -100 ≤ T2 i j ∧ T2 i j ≤ 100) ∧ (∀ q j, q < C.length → j < m → q ≠ i → T2 q j = T1 q j) ∧ (∀ j, j < m → (p : Int) ∣ (T i j + (t : Nat) * T A j) - T2 i j) ∧ Below V.heap.size V wr)) (fun v17 _ => tm - (intOf v17).toNat)
                      case atStart => exact ⟨0, Nat.zero_le _, rfl, HE3.out⟩
                      case round =>
                        clear HE3
                        rename World => W6
                        obtain ⟨t, htt, rfl, hp6⟩ := hrel
                        obtain ⟨T2, hT2, hU2, hB2, hs2', hd2, hBl2⟩ := hp6.out
                        have t1 := hT2.cellO i hil
                        have t2 := hT2.cellR i c hil hcl
                        have hgt6 := (hT2.outer.lt gt rfl).2
                        have hgi6 := (hT2.rows i hil).lt (gs i) rfl
                        have hxb := hB2 i c hil hcl
                        obtain ⟨x, hx⟩ : ∃ x, T2 i c = x := ⟨_, rfl⟩
                        have hzi : x.tmod (p : Int) = 0 ↔ (p : Int) ∣ T2 i c := by rw [hx]; exact tmod_zero x p
                        have hzb := tmod_abs x (p := p) (by omega)
                        rw [hx] at t2 hxb
                        obtain ⟨z, hz⟩ : ∃ z, x.tmod (p : Int) = z := ⟨_, rfl⟩
                        have HZI : Hid (z = 0 ↔ (p : Int) ∣ T2 i c) := (by rw [← hz]; exact hzi : z = 0 ↔ (p : Int) ∣ T2 i c)
                        rw [hz] at hzb
                        have ewz : IntKind.i64.wrap z = z := IntWalk.i64_in _ (by omega)
                        have hiA' : i ≠ A := hiA
                        clear hx hzi
                        by_cases hz0 : z = 0
                        · have HN : Hid (∃ T1, TabO V.heap.size gt cv2 C.length m gs T1 W6 ∧ W6.ownsRow V.heap.size 4 1 (.slice (some ⟨W1.heap.size, 0, none⟩) C.length C.length) C.length (bools (us.set A true)) ∧ (∀ i j, i < C.length → j < m → -100 ≤ T1 i j ∧ T1 i j ≤ 100) ∧ (∀ q j, q < C.length → j < m → q = A ∨ (i + 1) ≤ q → T1 q j = T q j) ∧ (∀ q, q ≠ A → q < (i + 1) → (p : Int) ∣ T1 q c ∧ ∃ k : Int, ∀ j, j < m → (p : Int) ∣ (T q j + k * T A j) - T1 q j) ∧ Below V.heap.size V W6) := ⟨T2, hT2, hU2, hB2, fun q j h1 h2 h3 => by rw [hs2' q j h1 h2 (by omega)]; exact HS1.out q j h1 h2 (by omega), fun q h1 h2 => by
                            by_cases e : q = i
                            · rw [e]; exact ⟨HZI.out.1 hz0, t, hd2⟩
                            · obtain ⟨g1, k, g2⟩ := HG1.out q h1 (by omega)
                              have hqn : q < C.length := by omega
                              exact ⟨by rw [hs2' q c hqn hcl e]; exact g1, k, fun j hj => by rw [hs2' q j hqn hj e]; exact g2 j hj⟩, hBl2⟩
                          subst hz0
                          clear hT2 hU2 hB2 hs2' hd2 hBl2 hp6
                          go_wp2
                          go_roundw
                          case rel => exact ⟨i + 1, by omega, by go_num, HN.out⟩
                          case measure => simp only [intOf]; omega
                        · have hz1 : (z == 0) = false := by simp; exact hz0
                          have hz9 : (z != 0) = true := by simp; exact hz0
                          have htl : t < tm := by
                            rcases Nat.lt_or_ge t tm with h | h
                            · exact h
                            · obtain rfl : t = tm := by omega
                              exfalso
                              apply hz0
                              rw [HZI.out]
                              have d := Int.dvd_sub HDV.out (hd2 c hcl)
                              have e : T i c + (t : Int) * T A c - (T i c + (t : Nat) * T A c - T2 i c) = T2 i c := by omega
                              rw [e] at d
                              exact d
                          have HE4 : Hid (TabO V.heap.size gt cv2 C.length m gs (fun q y => if q = i ∧ y < 0 then (T2 i y + T A y).tmod p else T2 q y) W6 ∧ W6.ownsRow V.heap.size 4 1 (.slice (some ⟨W1.heap.size, 0, none⟩) C.length C.length) C.length (bools (us.set A true)) ∧ Below V.heap.size V W6) := ⟨hT2.congr (fun a b _ _ => by simp), hU2, hBl2⟩
                          have HB2 : Hid (∀ i j, i < C.length → j < m → -100 ≤ T2 i j ∧ T2 i j ≤ 100) := hB2
                          have HS2 : Hid (∀ q j, q < C.length → j < m → q ≠ i → T2 q j = T1 q j) := hs2'
                          have HD2 : Hid (∀ j, j < m → (p : Int) ∣ (T i j + (t : Nat) * T A j) - T2 i j) := hd2
                          clear hT2 hU2 hB2 hs2' hd2 hBl2 hp6
                          go_wp2
                          clear t1 t2
                          go_loopw [18] (fun v18 wr => ∃ j : Nat, j ≤ m ∧ v18 = .int .i64 (j : Nat) ∧ Hid (TabO V.heap.size gt cv2 C.length m gs (fun q y => if q = i ∧ y < j then (T2 i y + T A y).tmod p else T2 q y) wr ∧ wr.ownsRow V.heap.size 4 1 (.slice (some ⟨W1.heap.size, 0, none⟩) C.length C.length) C.length (bools (us.set A true)) ∧ Below V.heap.size V wr)) (fun v18 _ => m - (intOf v18).toNat)
                          case atStart => exact ⟨0, Nat.zero_le _, rfl, HE4.out⟩
                          case round =>
                            clear HE4
                            rename World => W7
                            obtain ⟨j, hjm, rfl, hp7⟩ := hrel
                            by_cases hjl : j < m
                            · have t1 := hp7.out.1.cellO i hil
                              have t2 := hp7.out.1.cellO A hA1
                              have c1 := hp7.out.1.cellR i j hil hjl
                              have c2 := hp7.out.1.cellR A j hA1 hjl
                              have hgt7 := (hp7.out.1.outer.lt gt rfl).2
                              have hgi7 := (hp7.out.1.rows i hil).lt (gs i) rfl
                              have hgA7 := (hp7.out.1.rows A hA1).lt (gs A) rfl
                              rw [if_neg (by omega)] at c1
                              rw [if_neg (by omega), HS2.out A j hA1 hjl (Ne.symm hiA'), HS1.out A j hA1 hjl (Or.inl rfl)] at c2
                              have hu := HB2.out i j hil hjl
                              have hv := HBn.out A j hA1 hjl
                              obtain ⟨u, hu'⟩ : ∃ u, T2 i j = u := ⟨_, rfl⟩
                              obtain ⟨y, hy'⟩ : ∃ y, T A j = y := ⟨_, rfl⟩
                              rw [hu'] at c1 hu
                              rw [hy'] at c2 hv
                              have ew1 : IntKind.i64.wrap (u + y) = u + y := IntWalk.i64_in _ (by omega)
                              obtain ⟨z, hz'⟩ : ∃ z, (u + y).tmod (p : Int) = z := ⟨_, rfl⟩
                              have hzb' : -(p : Int) < z ∧ z < p := by rw [← hz']; exact tmod_abs _ (by omega)
                              have ew2 : IntKind.i64.wrap z = z := IntWalk.i64_in _ (by omega)
                              have hset := hp7.out.1.set (T' := (fun q y => if q = i ∧ y < (j + 1) then (T2 i y + T A y).tmod p else T2 q y)) i j z hil (fun a b' ha hb => by
                                show (if a = i ∧ b' < j + 1 then _ else _) = _
                                by_cases h1 : a = i ∧ b' = j
                                · rw [if_pos ⟨h1.1, by omega⟩, if_pos h1, h1.2, hu', hy', hz']
                                · rw [if_neg h1]
                                  by_cases h2 : a = i ∧ b' < j + 1
                                  · rw [if_pos h2, if_pos ⟨h2.1, by have : b' ≠ j := fun e => h1 ⟨h2.1, e⟩; omega⟩]
                                  · rw [if_neg h2, if_neg (fun q => h2 ⟨q.1, by omega⟩)])
                              have HST : Hid (TabO V.heap.size gt cv2 C.length m gs (fun q y => if q = i ∧ y < (j + 1) then (T2 i y + T A y).tmod p else T2 q y) (W7.setCell ⟨gs i, j, none⟩ (.int .i64 z)).drew ∧ (W7.setCell ⟨gs i, j, none⟩ (.int .i64 z)).drew.ownsRow V.heap.size 4 1 (.slice (some ⟨W1.heap.size, 0, none⟩) C.length C.length) C.length (bools (us.set A true)) ∧ Below V.heap.size V (W7.setCell ⟨gs i, j, none⟩ (.int .i64 z)).drew) := ⟨hset.1.any (grown_below ((Below.refl _ _).drew) none), own_any (hp7.out.2.1.kept hset.2 (own_ne hp7.out.2.1 (hp7.out.1.rows i hil) (by decide))) (grown_below ((Below.refl _ _).drew) none), Below.drew <| hp7.out.2.2.grown hset.2 hp7.out.2.2.size (fun q hq => by have := Option.some.inj hq; omega)⟩
                              have z0 : W7.frozen? ⟨gs i, j, none⟩ = false := (hp7.out.1.rows i hil).frozenAt j
                              have hii : (i : Int) < (C.length : Int) := by omega
                              have hAA : (A : Int) < (C.length : Int) := by omega
                              have hjj : (j : Int) < (m : Int) := by omega
                              have HNE : Hid (gt ≠ gs i ∧ (W7.setCell ⟨gs i, j, none⟩ (.int .i64 z)).drew.cell? ⟨gs A, j, none⟩ = some (.int .i64 y)) := ⟨fun e => by have h := own_ne hp7.out.1.outer (hp7.out.1.rows i hil) (by decide); rcases h with h | h; cases h; exact h (by rw [e]; rfl), by have h := HST.out.1.cellR A j hA1 hjl; rw [if_neg (by omega), HS2.out A j hA1 hjl (Ne.symm hiA'), HS1.out A j hA1 hjl (Or.inl rfl), hy'] at h; exact h⟩
                              clear hset hu' hy'
                              go_wp2
                              have HK : Hid ((W7.setCell ⟨gs i, j, none⟩ (.int .i64 z)).drew.cell? ⟨gt, i, none⟩ = some (.slice (some ⟨gs i, 0, none⟩) m m) ∧ (W7.setCell ⟨gs i, j, none⟩ (.int .i64 z)).drew.cell? ⟨gt, A, none⟩ = some (.slice (some ⟨gs A, 0, none⟩) m m) ∧ (W7.setCell ⟨gs i, j, none⟩ (.int .i64 z)).drew.cell? ⟨gs A, j, none⟩ = some (.int .i64 y)) := ⟨HST.out.1.cellO i hil, HST.out.1.cellO A hA1, HNE.out.2⟩
                              have HS7 : Hid (W7.drew.cell? ⟨gt, i, none⟩ = some (.slice (some ⟨gs i, 0, none⟩) m m) ∧ W7.drew.cell? ⟨gt, A, none⟩ = some (.slice (some ⟨gs A, 0, none⟩) m m) ∧ W7.drew.cell? ⟨gs A, j, none⟩ = some (.int .i64 y)) := ⟨t1, t2, c2⟩
                              refine wp_region_held_drew (S := fun w' => w'.cell? ⟨gt, i, none⟩ = some (.slice (some ⟨gs i, 0, none⟩) m m) ∧ w'.cell? ⟨gt, A, none⟩ = some (.slice (some ⟨gs A, 0, none⟩) m m) ∧ w'.cell? ⟨gs A, j, none⟩ = some (.int .i64 y)) (by kernel_rfl) HS7.out (fun hHeld => ?_)
                              have dbg : True := trivial
                              refine take_q 144 (i := 0) (v := ?vv0) rfl rfl (by kernel_rfl) (by kernel_rfl) (by kernel_rfl) (fun _ _ _ h => h) (Or.inl ⟨by rfl, ?yy0⟩) (by assumption) ?rr0
                              case yy0 => (intro w9 hSw; (try dsimp only at hSw); go_simp; (try with_reducible rfl))
                              simp only [List.setIfInBounds_toArray, List.set_cons_succ, List.set_cons_zero]
                              refine take_q 145 (i := 1) (v := ?vv1) rfl rfl (by kernel_rfl) (by kernel_rfl) (by kernel_rfl) (fun _ _ _ h => h) (Or.inl ⟨by rfl, ?yy1⟩) (by assumption) ?rr1
                              case yy1 => (intro w9 hSw; (try dsimp only at hSw); go_simp; (try with_reducible rfl))
                              simp only [List.setIfInBounds_toArray, List.set_cons_succ, List.set_cons_zero]
                              refine take_q 146 (i := 2) (v := ?vv2) rfl rfl (by kernel_rfl) (by kernel_rfl) (by kernel_rfl) (fun _ _ _ h => h) (Or.inl ⟨by rfl, ?yy2⟩) (by assumption) ?rr2
                              case yy2 => (intro w9 hSw; (try dsimp only at hSw); go_simp; (try with_reducible rfl))
                              simp only [List.setIfInBounds_toArray, List.set_cons_succ, List.set_cons_zero]
                              refine take_q 147 (i := 3) (v := ?vv3) rfl rfl (by kernel_rfl) (by kernel_rfl) (by kernel_rfl) (fun _ _ _ h => h) (Or.inl ⟨by rfl, ?yy3⟩) (by assumption) ?rr3
                              case yy3 => (intro w9 hSw; (try dsimp only at hSw); go_simp; (try with_reducible rfl))
                              simp only [List.setIfInBounds_toArray, List.set_cons_succ, List.set_cons_zero]
                              refine take_q 148 (i := 4) (v := ?vv4) rfl rfl (by kernel_rfl) (by kernel_rfl) (by kernel_rfl) (fun _ _ _ h => h) (Or.inl ⟨by rfl, ?yy4⟩) (by assumption) ?rr4
                              case yy4 => (intro w9 hSw; (try dsimp only at hSw); go_simp; (try with_reducible rfl))
                              simp only [List.setIfInBounds_toArray, List.set_cons_succ, List.set_cons_zero]
                              refine take_q 149 (i := 5) (v := ?vv5) rfl rfl (by kernel_rfl) (by kernel_rfl) (by kernel_rfl) (fun _ _ _ h => h) (Or.inl ⟨by rfl, ?yy5⟩) (by assumption) ?rr5
                              case yy5 => (intro w9 hSw; (try dsimp only at hSw); go_simp; (try with_reducible rfl))
                              simp only [List.setIfInBounds_toArray, List.set_cons_succ, List.set_cons_zero]
                              refine take_q 150 (i := 6) (v := ?vv6) rfl rfl (by kernel_rfl) (by kernel_rfl) (by kernel_rfl) (fun _ _ _ h => h) (Or.inl ⟨by rfl, ?yy6⟩) (by assumption) ?rr6
                              case yy6 => (intro w9 hSw; (try dsimp only at hSw); go_simp; (try with_reducible rfl))
                              simp only [List.setIfInBounds_toArray, List.set_cons_succ, List.set_cons_zero]
                              refine take_q 151 (i := 7) (v := ?vv7) rfl rfl (by kernel_rfl) (by kernel_rfl) (by kernel_rfl) (fun _ _ _ h => h) (Or.inl ⟨by rfl, ?yy7⟩) (by assumption) ?rr7
                              case yy7 => (intro w9 hSw; (try dsimp only at hSw); go_simp; (try with_reducible rfl))
                              simp only [List.setIfInBounds_toArray, List.set_cons_succ, List.set_cons_zero]
                              refine take_q 152 (i := 8) (v := ?vv8) rfl rfl (by kernel_rfl) (by kernel_rfl) (by kernel_rfl) (fun _ _ _ h => h) (Or.inl ⟨by rfl, ?yy8⟩) (by assumption) ?rr8
                              case yy8 => (intro w9 hSw; (try dsimp only at hSw); go_simp; (try with_reducible rfl))
                              simp only [List.setIfInBounds_toArray, List.set_cons_succ, List.set_cons_zero]
                              refine take_q 153 (i := 9) (v := ?vv9) rfl rfl (by kernel_rfl) (by kernel_rfl) (by kernel_rfl) (fun _ _ _ h => h) (Or.inl ⟨by rfl, ?yy9⟩) (by assumption) ?rr9
                              case yy9 => (intro w9 hSw; (try dsimp only at hSw); go_simp; (try with_reducible rfl))
                              simp only [List.setIfInBounds_toArray, List.set_cons_succ, List.set_cons_zero]
                              refine take_q 154 (i := 10) (v := ?vv10) rfl rfl (by kernel_rfl) (by kernel_rfl) (by kernel_rfl) (fun _ _ _ h => h) (Or.inl ⟨by rfl, ?yy10⟩) (by assumption) ?rr10
                              case yy10 => (intro w9 hSw; (try dsimp only at hSw); go_simp; (try with_reducible rfl))
                              simp only [List.setIfInBounds_toArray, List.set_cons_succ, List.set_cons_zero]
                              refine take_q 156 (i := 12) (v := ?vv12) rfl rfl (by kernel_rfl) (by kernel_rfl) (by kernel_rfl) (fun _ _ _ h => h) (Or.inl ⟨by rfl, ?yy12⟩) (by assumption) ?rr12
                              case yy12 => (intro w9 hSw; (try dsimp only at hSw); go_simp; (try with_reducible rfl))
                              simp only [List.setIfInBounds_toArray, List.set_cons_succ, List.set_cons_zero]
                              refine take_q 157 (i := 13) (v := ?vv13) rfl rfl (by kernel_rfl) (by kernel_rfl) (by kernel_rfl) (fun _ _ _ h => h) (Or.inl ⟨by rfl, ?yy13⟩) (by assumption) ?rr13
                              case yy13 => (intro w9 hSw; (try dsimp only at hSw); go_simp; (try with_reducible rfl))
                              simp only [List.setIfInBounds_toArray, List.set_cons_succ, List.set_cons_zero]
                              refine take_q 158 (i := 14) (v := ?vv14) rfl rfl (by kernel_rfl) (by kernel_rfl) (by kernel_rfl) (fun _ _ _ h => h) (Or.inl ⟨by rfl, ?yy14⟩) (by assumption) ?rr14
                              case yy14 => (intro w9 hSw; (try dsimp only at hSw); go_simp; (try with_reducible rfl))
                              simp only [List.setIfInBounds_toArray, List.set_cons_succ, List.set_cons_zero]
                              refine take_q 159 (i := 15) (v := ?vv15) rfl rfl (by kernel_rfl) (by kernel_rfl) (by kernel_rfl) (fun _ _ _ h => h) (Or.inl ⟨by rfl, ?yy15⟩) (by assumption) ?rr15
                              case yy15 => (intro w9 hSw; (try dsimp only at hSw); go_simp; (try with_reducible rfl))
                              simp only [List.setIfInBounds_toArray, List.set_cons_succ, List.set_cons_zero]
                              refine take_q 160 (i := 16) (v := ?vv16) rfl rfl (by kernel_rfl) (by kernel_rfl) (by kernel_rfl) (fun _ _ _ h => h) (Or.inl ⟨by rfl, ?yy16⟩) (by assumption) ?rr16
                              case yy16 => (intro w9 hSw; (try dsimp only at hSw); go_simp; (try with_reducible rfl))
                              simp only [List.setIfInBounds_toArray, List.set_cons_succ, List.set_cons_zero]
                              refine take_q 161 (i := 17) (v := ?vv17) rfl rfl (by kernel_rfl) (by kernel_rfl) (by kernel_rfl) (fun _ _ _ h => h) (Or.inl ⟨by rfl, ?yy17⟩) (by assumption) ?rr17
                              case yy17 => (intro w9 hSw; (try dsimp only at hSw); go_simp; (try with_reducible rfl))
                              simp only [List.setIfInBounds_toArray, List.set_cons_succ, List.set_cons_zero]
                              refine take_q 162 (i := 18) (v := ?vv18) rfl rfl (by kernel_rfl) (by kernel_rfl) (by kernel_rfl) (fun _ _ _ h => h) (Or.inl ⟨by rfl, ?yy18⟩) (by assumption) ?rr18
                              case yy18 => (intro w9 hSw; (try dsimp only at hSw); go_simp; (try with_reducible rfl))
                              simp only [List.setIfInBounds_toArray, List.set_cons_succ, List.set_cons_zero]
                              refine take_q 164 (i := 20) (v := ?vv20) rfl rfl (by kernel_rfl) (by kernel_rfl) (by kernel_rfl) (fun _ _ _ h => h) (Or.inl ⟨by rfl, ?yy20⟩) (by assumption) ?rr20
                              case yy20 => (intro w9 hSw; (try dsimp only at hSw); go_simp; (try with_reducible rfl))
                              simp only [List.setIfInBounds_toArray, List.set_cons_succ, List.set_cons_zero]
                              refine wpAnyH_ready (rs := [11]) (by kernel_rfl) (by simp) ?_
                              refine AllReadyH.cons rfl (fun K hK => ?_) AllReadyH.nil
                              go_simp
                              refine hK.out _ _ HS7.out (fun hHeld => ?_)
                              clear hK K
                              refine take_q 163 (i := 19) (v := ?vv19) rfl rfl (by kernel_rfl) (by kernel_rfl) (by kernel_rfl) (fun _ _ _ h => h) (Or.inl ⟨by rfl, ?yy19⟩) (by assumption) ?rr19
                              case yy19 => (intro w9 hSw; (try dsimp only at hSw); go_simp; (try with_reducible rfl))
                              simp only [List.setIfInBounds_toArray, List.set_cons_succ, List.set_cons_zero]
                              refine take_q 165 (i := 21) (v := ?vv21) rfl rfl (by kernel_rfl) (by kernel_rfl) (by kernel_rfl) (fun _ _ _ h => h) (Or.inl ⟨by rfl, ?yy21⟩) (by assumption) ?rr21
                              case yy21 => (intro w9 hSw; (try dsimp only at hSw); go_simp; (try with_reducible rfl))
                              simp only [List.setIfInBounds_toArray, List.set_cons_succ, List.set_cons_zero]
                              refine take_q 166 (i := 22) (v := ?vv22) rfl rfl (by kernel_rfl) (by kernel_rfl) (by kernel_rfl) (fun _ _ _ h => h) (Or.inl ⟨by rfl, ?yy22⟩) (by assumption) ?rr22
                              case yy22 => (intro w9 hSw; (try dsimp only at hSw); go_simp; (try with_reducible rfl))
                              simp only [List.setIfInBounds_toArray, List.set_cons_succ, List.set_cons_zero]
                              refine wpAnyH_ready (rs := [23]) (by kernel_rfl) (by simp) ?_
                              refine AllReadyH.cons rfl (fun K hK => ?_) AllReadyH.nil
                              go_simp
                              refine hK.out _ _ HK.out (fun hHeld => ?_)
                              clear hK K
                              refine wpAnyH_done (by kernel_rfl) ?_ _
                              clear hHeld dbg
                              go_wp2
                              go_roundw
                              case rel => exact ⟨j + 1, by omega, by go_num, HST.out⟩
                              case measure => simp only [intOf]; omega
                            · obtain rfl : m = j := by omega
                              have HN : Hid (∃ T2, TabO V.heap.size gt cv2 C.length m gs T2 W7 ∧ W7.ownsRow V.heap.size 4 1 (.slice (some ⟨W1.heap.size, 0, none⟩) C.length C.length) C.length (bools (us.set A true)) ∧ (∀ i j, i < C.length → j < m → -100 ≤ T2 i j ∧ T2 i j ≤ 100) ∧ (∀ q j, q < C.length → j < m → q ≠ i → T2 q j = T1 q j) ∧ (∀ j, j < m → (p : Int) ∣ (T i j + ((t + 1) : Nat) * T A j) - T2 i j) ∧ Below V.heap.size V W7) := ⟨(fun q y => if q = i ∧ y < m then (T2 i y + T A y).tmod p else T2 q y), hp7.out.1, hp7.out.2.1, fun q y h1 h2 => by
                                  show -100 ≤ (if q = i ∧ y < m then _ else _) ∧ (if q = i ∧ y < m then _ else _) ≤ _
                                  by_cases e : q = i
                                  · rw [if_pos ⟨e, h2⟩]
                                    have := tmod_abs (T2 i y + T A y) (p := p) (by omega)
                                    omega
                                  · rw [if_neg (fun h => e h.1)]
                                    exact HB2.out q y h1 h2, fun q y h1 h2 h3 => by
                                  show (if q = i ∧ y < m then _ else _) = _
                                  rw [if_neg (fun h => h3 h.1)]
                                  exact HS2.out q y h1 h2 h3, fun y hy => by
                                  show _ ∣ _ - (if i = i ∧ y < m then _ else _)
                                  rw [if_pos ⟨rfl, hy⟩]
                                  have d1 := HD2.out y hy
                                  have d2 := tmod_same (T2 i y + T A y) p
                                  have d3 := Int.dvd_add d1 d2
                                  have e : T i y + (t : Nat) * T A y - T2 i y + (T2 i y + T A y - (T2 i y + T A y).tmod p) = T i y + ((t + 1 : Nat) : Int) * T A y - (T2 i y + T A y).tmod p := by
                                    have : ((t + 1 : Nat) : Int) * T A y = (t : Nat) * T A y + T A y := by push_cast; rw [Int.add_mul, Int.one_mul]
                                    rw [this]; omega
                                  rw [e] at d3
                                  exact d3, hp7.out.2.2⟩
                              have hdm : decide ((m : Int) < (m : Int)) = false := by simp
                              have hdm2 : decide (m < m) = false := by simp
                              go_wp2
                              go_roundw
                              case rel => exact ⟨t + 1, by omega, by go_num, HN.out⟩
                              case measure => simp only [intOf]; omega
                  · obtain rfl : i = C.length := by omega
                    have HN : Hid (∃ (T : Nat → Nat → Int) (us : List Bool), TabO V.heap.size gt cv2 C.length m gs T W5 ∧ W5.ownsRow V.heap.size 4 1 (.slice (some ⟨W1.heap.size, 0, none⟩) C.length C.length) C.length (bools us) ∧ (∀ i j, i < C.length → j < m → -100 ≤ T i j ∧ T i j ≤ 100) ∧ Inv p m R0 (c + 1) (unR C.length us T) ∧ Below V.heap.size V W5) := ⟨T1, us.set A true, hT1, hU1, hB1, un_piv hp HPR.out hcl hA1 hA2 hul HI.out hA3 (fun q h1 h2 => hg1' q h1 h2), hBl1⟩
                    clear hT1 hU1 hB1 hs1' hg1' hBl1 hp5
                    go_wp2
                    go_roundw
                    case rel => exact ⟨c + 1, by omega, by go_num, (by rw [HR2.out]; exact congrArg (Value.int .i64) (by omega)), HN.out⟩
                    case measure => simp only [intOf]; omega
        · obtain rfl : c = m := by omega
          obtain ⟨q0, q1, -, -⟩ := HVD.out W3 hBl
          have ew : IntKind.i64.wrap ((c : Int) - (rkTo p c R0 c : Int) + loops) = (c : Int) - (rkTo p c R0 c : Int) + loops := IntWalk.i64_in _ (by omega)
          go_wp2
          go_ret
          exact ⟨rfl, HBW.out.trans (hBl.mono (by omega))⟩
end Go.Proofs.Ytinaebeoocjhcaa
