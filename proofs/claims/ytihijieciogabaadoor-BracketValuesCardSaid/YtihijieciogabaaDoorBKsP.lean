/- Several texts of the proof, one behind the other. -/
import Derived.Test.YtihijieciogabaaDoorF4P
import Derived.Deep.CutRange
/- The walk of ref.ringsOf. -/
namespace Go.Proofs.YtihijieciogabaaDoor
open Go.RowKit

theorem and_one2 : ∀ a : Nat, a < 64 → ∀ b : Nat, b < 64 → bits BinOp.and IntKind.i64 ((64 * a + b : Nat) : Int) 1 = (((64 * a + b) % 2 : Nat) : Int) := by decide +kernel
theorem and_one (x : Nat) (h : x < 4096) : bits BinOp.and IntKind.i64 (x : Int) 1 = ((x % 2 : Nat) : Int) := by
  have := and_one2 (x / 64) (by omega) (x % 64) (by omega)
  rw [show 64 * (x / 64) + x % 64 = x by omega] at this
  exact this
theorem bit_12 {s k : Nat} (hs : s < 4096) : bits BinOp.and IntKind.i64 ((s : Int) / 2 ^ k) 1 = ((s / 2 ^ k % 2 : Nat) : Int) := by
  rw [show ((s : Int) / 2 ^ k) = ((s / 2 ^ k : Nat) : Int) by norm_cast]
  exact and_one _ (Nat.lt_of_le_of_lt (Nat.div_le_self _ _) hs)
/-- The labels of arcs 0 to 2n. -/
def laL (n : Nat) (W : Nat → Nat) : List Nat := (List.range (2 * n + 1)).map W
theorem laL_len (n : Nat) (W : Nat → Nat) : (laL n W).length = 2 * n + 1 := by simp [laL]
theorem laL_at {n : Nat} (W : Nat → Nat) {x : Nat} (h : x ≤ 2 * n) : (laL n W).getD x 0 = W x := by
  unfold laL
  rw [List.getD_eq_getElem?_getD, List.getElem?_map, List.getElem?_range (by omega)]; rfl
theorem laL_lab {n : Nat} (W : Nat → Nat) {x y : Nat} (hx : x ≤ 2 * n) (hy : y ≤ 2 * n) : (laL n W).map (fun v => if v = (laL n W).getD y 0 then (laL n W).getD x 0 else v) = laL n (lab W x y) := by
  rw [laL_at W hx, laL_at W hy]
  unfold laL lab
  rw [List.map_map]; rfl
/-- A diagram in its box, labels behind it. -/
structure RiSt (w : World) (a : Option Addr) (cap : Nat) (C : List Cr) (lo : Nat) (L : List Nat) (W : World) : Prop where
  box : W.heap[w.heap.size]? = some (.cells #[.slice a C.length cap, .int .i64 (lo : Nat)] 24 (0, 0))
  own : W.ownsRow (w.heap.size + 1) 3 1 (.slice (some ⟨w.heap.size + 1, 0, none⟩) (2 * C.length + 1) (2 * C.length + 1)) (2 * C.length + 1) (nats L)
  bel : Below w.heap.size w W
theorem RiSt.any {w W W' : World} {a : Option Addr} {cap : Nat} {C : List Cr} {lo : Nat} {L : List Nat} (h : RiSt w a cap C lo L W) (hb : Below W.heap.size W W') : RiSt w a cap C lo L W' :=
  ⟨(hb.block _ (Array.getElem?_eq_some_iff.1 h.box).1).trans h.box, own_any h.own (grown_below hb none), h.bel.trans (hb.mono h.bel.size)⟩
theorem RiSt.put {w W W' : World} {a : Option Addr} {cap : Nat} {C : List Cr} {lo : Nat} {L L' : List Nat} (h : RiSt w a cap C lo L W) (ho : W'.ownsRow (w.heap.size + 1) 3 1 (.slice (some ⟨w.heap.size + 1, 0, none⟩) (2 * C.length + 1) (2 * C.length + 1)) (2 * C.length + 1) (nats L')) (hg : W.grownBy W' (some (w.heap.size + 1))) : RiSt w a cap C lo L' W' :=
  ⟨(hg.block _ (Array.getElem?_eq_some_iff.1 h.box).1 (fun e => by have := Option.some.inj e; omega)).trans h.box, ho, h.bel.grown hg h.bel.size (fun j hj => by cases hj; omega)⟩
/-- Rings that are left. -/
def riN (C : List Cr) (lo s i : Nat) : Nat := 2 * C.length + lo - joinP (prS (arN C) s) i
theorem join_le (P : Nat → Nat × Nat) : ∀ i, joinP P i ≤ i
  | 0 => Nat.le_refl _
  | i + 1 => by
    have := join_le P i
    show joinP P i + (if _ then 0 else 1) ≤ i + 1
    split <;> omega
/-- A state's sides at crossing k, as the program names them. -/
def sdS (s k j : Nat) : Nat := if s / 2 ^ k % 2 = 1 then j else (j + 1) % 4
theorem pr_sd (ar : Nat → Nat → Nat) (s k : Nat) : prS ar s (2 * k) = (ar k (sdS s k 0), ar k (sdS s k 1)) ∧ prS ar s (2 * k + 1) = (ar k (sdS s k 2), ar k (sdS s k 3)) := by
  rw [pr_lo, pr_hi]
  unfold sdS
  by_cases h : s / 2 ^ k % 2 = 1
  · simp only [if_pos h]; refine ⟨?_, ?_⟩ <;> first | trivial | rfl
  · simp only [if_neg h]; refine ⟨?_, ?_⟩ <;> first | trivial | rfl

set_option maxHeartbeats 8000000 in
set_option maxRecDepth 100000 in
theorem ringsOf_any (a : Option Addr) (cap : Nat) (C : List Cr) (lo s : Nat) (w : World) (hm : mayD C (lo : Nat) = true) (h12 : C.length ≤ 12) (hs : s < 4096) (hC : Crs w w.heap.size (.slice a C.length cap) C) :
    Calls Tryd.prog 21 #[.agg #[.slice a C.length cap, .int .i64 (lo : Nat)], .int .i64 (s : Nat)] w fun e w' => e = .returned (.int .i64 (rgS C lo s : Nat)) ∧ Below w.heap.size w w' := by
  obtain ⟨s1, s2, s3, s4⟩ := sizeB_iff (may_size hm)
  obtain ⟨i2, hk, hx0, hx1, hx2⟩ := info_parts infoInt
  have HM := hid_bk hm
  have HC := hid_bk hC
  have hlo : lo ≤ 16 := by omega
  have HRG : Hid (rgS C lo s = riN C lo s (2 * C.length)) := (rfl : rgS C lo s = riN C lo s (2 * C.length))
  obtain ⟨rg, hrg⟩ : ∃ r, rgS C lo s = r := ⟨_, rfl⟩
  rw [hrg] at HRG ⊢
  clear hm hC hrg
  obtain ⟨w0, hw0⟩ : ∃ w0, w0 = w.alloc (.cells #[.slice a C.length cap, .int .i64 (lo : Nat)] 24) := ⟨_, rfl⟩
  have HW0 := hid_bk hw0
  have hs0 : w0.heap.size = w.heap.size + 1 := by rw [hw0]; simp
  have HB0 : Hid (Below w.heap.size w w0) := (by rw [hw0]; exact (Below.refl _ _).alloc (Nat.le_refl _) _ : Below w.heap.size w w0)
  have HT0 : Hid (w0.heap[w.heap.size]? = some (.cells #[.slice a C.length cap, .int .i64 (lo : Nat)] 24 (0, 0))) := (by rw [hw0]; exact alloc_at rfl : w0.heap[w.heap.size]? = some (.cells #[.slice a C.length cap, .int .i64 (lo : Nat)] 24 (0, 0)))
  have q1 : IntKind.i64.wrap (2 * (C.length : Int)) = 2 * (C.length : Int) := IntWalk.i64_in _ (by omega)
  have q2 : IntKind.i64.wrap (2 * (C.length : Int) + 1) = ((2 * C.length + 1 : Nat) : Int) := by rw [IntWalk.i64_in _ (by omega)]; omega
  clear hw0
  go_enter Tryd.func21, Tryd.ntmps21
  go_wp2_with (first | (at_make; refine wpList_make_full _ rfl _ _ 57 rfl (w.heap.size + 1) 3 i2 (.int .i64 0) 1 Tryd.underlying57 hk hx0 hx1 .i64 .i64 _ _ (2 * C.length + 1) rfl rfl rfl rfl (by rw [hx2]; omega) (by unfold maxLen; omega) (by simp) ?_; intro w1 hrow hg1; refine Hid.out ?_))
  refine Lib.hid ?_
  rw [← HW0.out] at hrow hg1
  rw [made_zeroN, hs0, labTo_zero] at hrow
  have HP0 : Hid (RiSt w a cap C lo (labTo (2 * C.length + 1) 0) w1) := (⟨(hg1.block _ (by omega) (by simp)).trans HT0.out, hrow, HB0.out.grown hg1 (by omega) (fun k hk => by cases hk)⟩ : RiSt w a cap C lo (labTo (2 * C.length + 1) 0) w1)
  clear hrow hg1 HT0 HB0 hs0 HW0 hk hx0 hx1 hx2
  go_wp2
  go_loopw [7] (fun v7 wr => ∃ i : Nat, i ≤ 2 * C.length + 1 ∧ v7 = .int .i64 (i : Nat) ∧ Hid (RiSt w a cap C lo (labTo (2 * C.length + 1) i) wr)) (fun v7 _ => 2 * C.length + 1 - (intOf v7).toNat)
  case atStart => exact ⟨0, Nat.zero_le _, rfl, HP0.out⟩
  case round =>
    clear HP0
    rename World => W1
    obtain ⟨i, hin, rfl, hp⟩ := hrel
    have hlt := hp.out.own.lt (w.heap.size + 1) rfl
    by_cases hil : i < 2 * C.length + 1
    · have hst := hp.out.own.stored i (.int .i64 (i : Nat))
      rw [nats_set, labTo_next] at hst
      have HST := hid_bk (hp.out.put hst.1 hst.2)
      have e0 : W1.cell? ⟨w.heap.size + 1, i, none⟩ = some (.int .i64 ((labTo (2 * C.length + 1) i).getD i 0 : Nat)) := by
        rw [hp.out.own.cellAt i (by omega)]; exact nats_get _ i (by simp [labTo]; omega)
      have z0 : W1.frozen? ⟨w.heap.size + 1, i, none⟩ = false := hp.out.own.frozenAt i
      have hle : ((i : Int) ≤ 2 * (C.length : Int)) = True := eq_true (by omega)
      clear hst
      go_wp2
      go_roundw
      case rel => exact ⟨i + 1, by omega, by go_num, HST.out⟩
      case measure => simp only [intOf]; omega
    · have hie : i = 2 * C.length + 1 := by omega
      have HIE := hid_bk hie
      have hle : decide ((i : Int) ≤ 2 * (C.length : Int)) = false := decide_eq_false (by omega)
      clear hie
      have d0 : W1.cell? ⟨w.heap.size, 0, none⟩ = some (.slice a C.length cap) := block_cell hp.out.box rfl
      have d1 : W1.cell? ⟨w.heap.size, 1, none⟩ = some (.int .i64 (lo : Nat)) := block_cell hp.out.box rfl
      have hwl : w.heap.size < W1.heap.size := (Array.getElem?_eq_some_iff.1 hp.out.box).1
      have HP1 : Hid (RiSt w a cap C lo (laL C.length (labP (prS (arN C) s) (2 * 0))) W1) := (by
        have h := hp.out
        rw [HIE.out, labTo_all] at h
        have e : laL C.length (labP (prS (arN C) s) (2 * 0)) = List.range (2 * C.length + 1) := by
          show (List.range (2 * C.length + 1)).map (fun v => v) = _
          exact List.map_id' _
        rw [e]; exact h : RiSt w a cap C lo (laL C.length (labP (prS (arN C) s) (2 * 0))) W1)
      have q3 : IntKind.i64.wrap (2 * (C.length : Int) + (lo : Int)) = ((riN C lo s (2 * 0) : Nat) : Int) := by
        rw [IntWalk.i64_in _ (by omega)]
        show _ = ((2 * C.length + lo - 0 : Nat) : Int)
        omega
      clear hp
      go_wp2
      clear d0 d1 q2 q3 hle hwl hlt hil hin HIE
      go_loopw [8, 9, 10, 11, 12, 13, 14] (fun v8 v9 _ _ _ _ _ wr => ∃ k : Nat, k ≤ C.length ∧ v9 = .int .i64 (k : Nat) ∧ v8 = .int .i64 (riN C lo s (2 * k) : Nat) ∧ Hid (RiSt w a cap C lo (laL C.length (labP (prS (arN C) s) (2 * k))) wr)) (fun _ v9 _ _ _ _ _ _ => C.length - (intOf v9).toNat)
      case atStart => exact ⟨0, Nat.zero_le _, rfl, rfl, HP1.out⟩
      case round =>
        clear HP1
        rename World => W2
        obtain ⟨k, hkn, rfl, rfl, hp⟩ := hrel
        by_cases hkl : k < C.length
        · have hkk : (k : Int) < (C.length : Int) := by omega
          have hsW := hp.out.bel.size
          obtain ⟨a', cap', ea, -, kc⟩ := HC.out
          injection ea with ea1 ea2 ea3
          subst ea1 ea3
          obtain ⟨bb, off, rfl, hbw, hCA⟩ := kc (by omega)
          obtain ⟨e0, e1, e2, e3, e4⟩ := (hCA.on hp.out.bel hbw) k hkl
          have hbW : bb < W2.heap.size := by omega
          have d0 : W2.cell? ⟨w.heap.size, 0, none⟩ = some (.slice (some ⟨bb, off, none⟩) C.length cap) := block_cell hp.out.box rfl
          have hwl : w.heap.size < W2.heap.size := (Array.getElem?_eq_some_iff.1 hp.out.box).1
          have y0 := ar_range HM.out hkl (s := 0) (by omega)
          have y1 := ar_range HM.out hkl (s := 1) (by omega)
          have y2 := ar_range HM.out hkl (s := 2) (by omega)
          have y3 := ar_range HM.out hkl (s := 3) (by omega)
          have x0 : (C.getD k Cr.none).a = ((arN C k 0 : Nat) : Int) := by have := y0.1; show (C.getD k Cr.none).arc 0 = _; unfold arN; omega
          have x1 : (C.getD k Cr.none).b = ((arN C k 1 : Nat) : Int) := by have := y1.1; show (C.getD k Cr.none).arc 1 = _; unfold arN; omega
          have x2 : (C.getD k Cr.none).c = ((arN C k 2 : Nat) : Int) := by have := y2.1; show (C.getD k Cr.none).arc 2 = _; unfold arN; omega
          have x3 : (C.getD k Cr.none).d = ((arN C k 3 : Nat) : Int) := by have := y3.1; show (C.getD k Cr.none).arc 3 = _; unfold arN; omega
          rw [x0] at e0
          rw [x1] at e1
          rw [x2] at e2
          rw [x3] at e3
          have hsd := pr_sd (arN C) s k
          obtain ⟨q0, z0⟩ : ∃ q, arN C k 0 = q := ⟨_, rfl⟩
          obtain ⟨q1', z1⟩ : ∃ q, arN C k 1 = q := ⟨_, rfl⟩
          obtain ⟨q2, z2⟩ : ∃ q, arN C k 2 = q := ⟨_, rfl⟩
          obtain ⟨q3, z3⟩ : ∃ q, arN C k 3 = q := ⟨_, rfl⟩
          obtain ⟨pl, zp⟩ : ∃ q, (C.getD k Cr.none).plus = q := ⟨_, rfl⟩
          have t0 : q0 ≤ 2 * C.length := by rw [← z0]; exact y0.2.2.2
          have t1 : q1' ≤ 2 * C.length := by rw [← z1]; exact y1.2.2.2
          have t2 : q2 ≤ 2 * C.length := by rw [← z2]; exact y2.2.2.2
          have t3 : q3 ≤ 2 * C.length := by rw [← z3]; exact y3.2.2.2
          rw [z0] at e0
          rw [z1] at e1
          rw [z2] at e2
          rw [z3] at e3
          rw [zp] at e4
          obtain ⟨p0, hp0⟩ : ∃ q, arN C k (sdS s k 0) = q := ⟨_, rfl⟩
          obtain ⟨p1, hp1⟩ : ∃ q, arN C k (sdS s k 1) = q := ⟨_, rfl⟩
          obtain ⟨p2, hp2⟩ : ∃ q, arN C k (sdS s k 2) = q := ⟨_, rfl⟩
          obtain ⟨p3, hp3⟩ : ∃ q, arN C k (sdS s k 3) = q := ⟨_, rfl⟩
          rw [hp0, hp1, hp2, hp3] at hsd
          have HSD := hid_bk hsd
          have HPQ : Hid ((s / 2 ^ k % 2 = 1 → p0 = q0 ∧ p1 = q1' ∧ p2 = q2 ∧ p3 = q3) ∧ (¬ s / 2 ^ k % 2 = 1 → p0 = q1' ∧ p1 = q2 ∧ p2 = q3 ∧ p3 = q0)) := (⟨fun h => by
            unfold sdS at hp0 hp1 hp2 hp3
            rw [if_pos h] at hp0 hp1 hp2 hp3
            exact ⟨hp0.symm.trans z0, hp1.symm.trans z1, hp2.symm.trans z2, hp3.symm.trans z3⟩, fun h => by
            unfold sdS at hp0 hp1 hp2 hp3
            rw [if_neg h] at hp0 hp1 hp2 hp3
            exact ⟨hp0.symm.trans z1, hp1.symm.trans z2, hp2.symm.trans z3, hp3.symm.trans z0⟩⟩ : (s / 2 ^ k % 2 = 1 → p0 = q0 ∧ p1 = q1' ∧ p2 = q2 ∧ p3 = q3) ∧ (¬ s / 2 ^ k % 2 = 1 → p0 = q1' ∧ p1 = q2 ∧ p2 = q3 ∧ p3 = q0))
          clear x0 x1 x2 x3 y0 y1 y2 y3 z0 z1 z2 z3 zp hp0 hp1 hp2 hp3 hsd hCA kc ea2
          obtain ⟨X, hX⟩ : ∃ X, W2.alloc (.cells #[.int .i64 (q0 : Nat), .int .i64 (q1' : Nat), .int .i64 (q2 : Nat), .int .i64 (q3 : Nat), .bool pl] 69) = X := ⟨_, rfl⟩
          have hkX : X.heap[W2.heap.size]? = some (.cells #[.int .i64 (q0 : Nat), .int .i64 (q1' : Nat), .int .i64 (q2 : Nat), .int .i64 (q3 : Nat), .bool pl] 69 (0, 0)) := by rw [← hX]; exact heap_alloc_new _ _
          have hRX : RiSt w (some ⟨bb, off, none⟩) cap C lo (laL C.length (labP (prS (arN C) s) (2 * k))) X := hp.out.any (by rw [← hX]; exact (Below.refl _ _).alloc (Nat.le_refl _) _)
          have HX := hid_bk hX
          have HKX := hid_bk hkX
          have HRX := hid_bk hRX
          clear hX hkX hRX
          go_upto_region 12 with (fail)
          rw [HX.out]
          have f0 : X.cell? ⟨W2.heap.size, 0, none⟩ = some (.int .i64 (q0 : Nat)) := block_cell HKX.out rfl
          have f1 : X.cell? ⟨W2.heap.size, 1, none⟩ = some (.int .i64 (q1' : Nat)) := block_cell HKX.out rfl
          have f2 : X.cell? ⟨W2.heap.size, 2, none⟩ = some (.int .i64 (q2 : Nat)) := block_cell HKX.out rfl
          have f3 : X.cell? ⟨W2.heap.size, 3, none⟩ = some (.int .i64 (q3 : Nat)) := block_cell HKX.out rfl
          clear e0 e1 e2 e3 e4 d0 hbW hp
          go_quiet (fail)
          obtain ⟨Y, hY⟩ : ∃ Y, Y = X.drewN nq := ⟨_, rfl⟩
          rw [← hY]
          have hbY : Below X.heap.size X Y := by rw [hY]; exact below_drewN (Below.refl _ _) _
          have HRY := hid_bk (HRX.out.any hbY)
          have HKY := hid_bk ((hbY.block _ (Array.getElem?_eq_some_iff.1 HKX.out).1).trans HKX.out)
          clear hY hbY f0 f1 f2 f3 HX HKX HRX
          have hand := bit_12 (k := k) hs
          obtain ⟨t, ht⟩ : ∃ t, s / 2 ^ k % 2 = t := ⟨_, rfl⟩
          rw [ht] at hand HPQ
          have hsm : s / 2 ^ k % 2 < 2 := Nat.mod_lt _ (by omega)
          rw [ht] at hsm
          clear ht
          go_upto_if 59 with (fail)
          go_cut [11, 12, 13, 14] from 37 to 79 (fun v11 v12 v13 v14 wx => v11 = .int .i64 (p0 : Nat) ∧ v12 = .int .i64 (p1 : Nat) ∧ v13 = .int .i64 (p2 : Nat) ∧ v14 = .int .i64 (p3 : Nat) ∧ Hid (RiSt w (some ⟨bb, off, none⟩) cap C lo (laL C.length (labP (prS (arN C) s) (2 * k))) wx))
          case first =>
            by_cases h1 : t = 1
            · have hd : ((t : Int) == 0) = false := by rw [beq_eq_false_iff_ne]; omega
              obtain ⟨g0, g1, g2, g3⟩ := HPQ.out.1 h1
              subst g0 g1 g2 g3
              clear h1 HPQ
              go_wp2
              go_meet
              exact ⟨rfl, rfl, rfl, rfl, HRY.out⟩
            · have hd : ((t : Int) == 0) = true := by rw [beq_iff_eq]; omega
              obtain ⟨g0, g1, g2, g3⟩ := HPQ.out.2 h1
              subst g0 g1 g2 g3
              clear h1 HPQ
              have f0 : Y.cell? ⟨W2.heap.size, 0, none⟩ = some (.int .i64 (p3 : Nat)) := block_cell HKY.out rfl
              have f1 : Y.cell? ⟨W2.heap.size, 1, none⟩ = some (.int .i64 (p0 : Nat)) := block_cell HKY.out rfl
              have f2 : Y.cell? ⟨W2.heap.size, 2, none⟩ = some (.int .i64 (p1 : Nat)) := block_cell HKY.out rfl
              have f3 : Y.cell? ⟨W2.heap.size, 3, none⟩ = some (.int .i64 (p2 : Nat)) := block_cell HKY.out rfl
              go_wp2
              go_quiet (fail)
              go_wp2
              go_meet
              exact ⟨rfl, rfl, rfl, rfl, HRY.out.any (below_drewN (Below.refl _ _) _)⟩
          case rest =>
            obtain ⟨rfl, rfl, rfl, rfl, hcut⟩ := hcut
            rename World => W3
            have HR3 := hid_bk hcut.out
            have hp03 : p0 ≤ 2 * C.length ∧ p1 ≤ 2 * C.length ∧ p2 ≤ 2 * C.length ∧ p3 ≤ 2 * C.length := by
              by_cases h1 : t = 1
              · have := HPQ.out.1 h1; omega
              · have := HPQ.out.2 h1; omega
            clear hcut HPQ HRY HKY hand hsm t0 t1 t2 t3
            rename (∀ (a : Act) (w : World), Code.wp _ _ _ a w → _) => hK9
            refine hK9 _ _ ?_
            clear hK9
            have hl0 : ∀ i, (laL C.length (labP (prS (arN C) s) i)).length = 2 * C.length + 1 := fun i => laL_len _ _
            have hj0 := join_le (prS (arN C) s) (2 * k)
            have HJ1 : Hid (joinP (prS (arN C) s) (2 * k + 1) = joinP (prS (arN C) s) (2 * k) + (if labP (prS (arN C) s) (2 * k) p0 = labP (prS (arN C) s) (2 * k) p1 then 0 else 1)) := (by
              show joinP (prS (arN C) s) (2 * k) + (if labP (prS (arN C) s) (2 * k) (prS (arN C) s (2 * k)).1 = labP (prS (arN C) s) (2 * k) (prS (arN C) s (2 * k)).2 then 0 else 1) = _
              rw [HSD.out.1] : joinP (prS (arN C) s) (2 * k + 1) = _)
            have HJ2 : Hid (joinP (prS (arN C) s) (2 * k + 1 + 1) = joinP (prS (arN C) s) (2 * k + 1) + (if labP (prS (arN C) s) (2 * k + 1) p2 = labP (prS (arN C) s) (2 * k + 1) p3 then 0 else 1)) := (by
              show joinP (prS (arN C) s) (2 * k + 1) + (if labP (prS (arN C) s) (2 * k + 1) (prS (arN C) s (2 * k + 1)).1 = labP (prS (arN C) s) (2 * k + 1) (prS (arN C) s (2 * k + 1)).2 then 0 else 1) = _
              rw [HSD.out.2] : joinP (prS (arN C) s) (2 * k + 1 + 1) = _)
            have HL1 : Hid (labP (prS (arN C) s) (2 * k + 1) = lab (labP (prS (arN C) s) (2 * k)) p0 p1) := (by
              show lab (labP (prS (arN C) s) (2 * k)) (prS (arN C) s (2 * k)).1 (prS (arN C) s (2 * k)).2 = _
              rw [HSD.out.1] : labP (prS (arN C) s) (2 * k + 1) = _)
            have HL2 : Hid (labP (prS (arN C) s) (2 * k + 1 + 1) = lab (labP (prS (arN C) s) (2 * k + 1)) p2 p3) := (by
              show lab (labP (prS (arN C) s) (2 * k + 1)) (prS (arN C) s (2 * k + 1)).1 (prS (arN C) s (2 * k + 1)).2 = _
              rw [HSD.out.2] : labP (prS (arN C) s) (2 * k + 1 + 1) = _)
            have hj1 := join_le (prS (arN C) s) (2 * k + 1)
            obtain ⟨b1, hb1⟩ : ∃ b, (!decide (labP (prS (arN C) s) (2 * k) p0 = labP (prS (arN C) s) (2 * k) p1)) = b := ⟨_, rfl⟩
            obtain ⟨b2, hb2⟩ : ∃ b, (!decide (labP (prS (arN C) s) (2 * k + 1) p2 = labP (prS (arN C) s) (2 * k + 1) p3)) = b := ⟨_, rfl⟩
            have hN1 : (riN C lo s (2 * k + 1) : Int) = if b1 = true then (riN C lo s (2 * k) : Int) - 1 else (riN C lo s (2 * k) : Int) := by
              have e := HJ1.out
              unfold riN
              rw [← hb1]
              by_cases h : labP (prS (arN C) s) (2 * k) p0 = labP (prS (arN C) s) (2 * k) p1
              · simp only [h, if_true] at e ⊢; simp; omega
              · simp only [h, if_false] at e ⊢; simp; omega
            have hN2 : (riN C lo s (2 * k + 1 + 1) : Int) = if b2 = true then (riN C lo s (2 * k + 1) : Int) - 1 else (riN C lo s (2 * k + 1) : Int) := by
              have e := HJ2.out
              unfold riN
              rw [← hb2]
              by_cases h : labP (prS (arN C) s) (2 * k + 1) p2 = labP (prS (arN C) s) (2 * k + 1) p3
              · simp only [h, if_true] at e ⊢; simp; omega
              · simp only [h, if_false] at e ⊢; simp; omega
            have hb0 : (riN C lo s (2 * k) : Int) ≤ 40 := by unfold riN; omega
            have hb1' : (riN C lo s (2 * k + 1) : Int) ≤ 40 := by unfold riN; omega
            have HM1 : Hid (∀ W, RiSt w (some ⟨bb, off, none⟩) cap C lo (laL C.length (labP (prS (arN C) s) (2 * k))) W → Calls Tryd.prog 38 #[.slice (some ⟨w.heap.size + 1, 0, none⟩) (2 * C.length + 1) (2 * C.length + 1), .int .i64 (p0 : Nat), .int .i64 (p1 : Nat)] W fun e w' => e = .returned (.bool b1) ∧ RiSt w (some ⟨bb, off, none⟩) cap C lo (laL C.length (labP (prS (arN C) s) (2 * k + 1))) w') := fun W hW => (merge_any (w.heap.size + 1) (w.heap.size + 1) (2 * C.length + 1) _ p0 p1 W (hl0 _) (by omega) (by omega) (by omega) hW.own).mono fun e w' ⟨g1, g2, g3⟩ => ⟨by rw [g1, laL_at _ hp03.1, laL_at _ hp03.2.1, hb1], by
              rw [laL_lab _ hp03.1 hp03.2.1, ← HL1.out] at g2
              exact hW.put g2 g3⟩
            have HM2 : Hid (∀ W, RiSt w (some ⟨bb, off, none⟩) cap C lo (laL C.length (labP (prS (arN C) s) (2 * k + 1))) W → Calls Tryd.prog 38 #[.slice (some ⟨w.heap.size + 1, 0, none⟩) (2 * C.length + 1) (2 * C.length + 1), .int .i64 (p2 : Nat), .int .i64 (p3 : Nat)] W fun e w' => e = .returned (.bool b2) ∧ RiSt w (some ⟨bb, off, none⟩) cap C lo (laL C.length (labP (prS (arN C) s) (2 * k + 1 + 1))) w') := fun W hW => (merge_any (w.heap.size + 1) (w.heap.size + 1) (2 * C.length + 1) _ p2 p3 W (hl0 _) (by omega) (by omega) (by omega) hW.own).mono fun e w' ⟨g1, g2, g3⟩ => ⟨by rw [g1, laL_at _ hp03.2.2.1, laL_at _ hp03.2.2.2, hb2], by
              rw [laL_lab _ hp03.2.2.1 hp03.2.2.2, ← HL2.out] at g2
              exact hW.put g2 g3⟩
            obtain ⟨N0, hN0e⟩ : ∃ N, riN C lo s (2 * k) = N := ⟨_, rfl⟩
            obtain ⟨N1, hN1e⟩ : ∃ N, riN C lo s (2 * k + 1) = N := ⟨_, rfl⟩
            obtain ⟨N2, hN2e⟩ : ∃ N, riN C lo s (2 * k + 1 + 1) = N := ⟨_, rfl⟩
            rw [hN0e] at hN1 hb0 ⊢
            rw [hN1e] at hN1 hN2 hb1'
            rw [hN2e] at hN2
            have HN2 := hid_bk hN2e
            have H12 := hid_bk hN2
            have H01 := hid_bk hN1
            clear hN0e hN1e hN2e hN1 hN2 hb1 hb2 hj0 hj1 hl0 HJ1 HJ2 HL1 HL2 HSD
            generalize labP (prS (arN C) s) (2 * k + 1) = L1 at HM1 HM2
            go_upto_if 71 with (go_at_call 38; refine (HM1.out _ HR3.out).mono ?_; rintro e9 w5 ⟨rfl, h5⟩; have H5 := hid_bk h5; clear h5)
            go_cut [8] from 37 to 79 (fun v8 wx => v8 = .int .i64 (N1 : Nat) ∧ Hid (RiSt w (some ⟨bb, off, none⟩) cap C lo (laL C.length L1) wx))
            case first =>
              cases b1
              · have e1 : N1 = N0 := by have := H01.out; simp at this; omega
                subst e1
                go_wp2
                go_meet
                exact ⟨rfl, H5.out⟩
              · have ew : IntKind.i64.wrap ((N0 : Int) - 1) = (N1 : Int) := by have := H01.out; simp at this; rw [IntWalk.i64_in _ (by omega)]; omega
                go_wp2
                go_meet
                exact ⟨rfl, H5.out⟩
            case rest =>
              obtain ⟨rfl, hcut⟩ := hcut
              rename World => W4
              have HR4 := hid_bk hcut.out
              clear hcut HM1 HR3
              rename (∀ (a : Act) (w : World), Code.wp _ _ _ a w → _) => hK9
              refine hK9 _ _ ?_
              clear hK9
              go_upto_if 77 with (go_at_call 38; refine (HM2.out _ HR4.out).mono ?_; rintro e9 w5 ⟨rfl, h5⟩)
              rw [show 2 * k + 1 + 1 = 2 * (k + 1) by omega] at h5
              have H5 := hid_bk h5
              have HN3 : Hid (N2 = riN C lo s (2 * (k + 1))) := HN2.out.symm
              clear h5 HN2
              cases b2
              · have e1 : N2 = N1 := by have := H12.out; simp at this; omega
                subst e1
                go_wp2
                go_roundw
                case rel => exact ⟨k + 1, by omega, by go_num, congrArg (fun n : Nat => Value.int .i64 (n : Int)) HN3.out, H5.out⟩
                case measure => simp only [intOf]; omega
              · have ew : IntKind.i64.wrap ((N1 : Int) - 1) = (N2 : Int) := by have := H12.out; simp at this; rw [IntWalk.i64_in _ (by omega)]; omega
                go_wp2
                go_roundw
                case rel => exact ⟨k + 1, by omega, by go_num, congrArg (fun n : Nat => Value.int .i64 (n : Int)) HN3.out, H5.out⟩
                case measure => simp only [intOf]; omega
        · obtain rfl : k = C.length := by omega
          go_wp2
          go_ret
          exact ⟨by rw [HRG.out]; rfl, hp.out.bel⟩
end Go.Proofs.YtihijieciogabaaDoor
/- Plain mathematics of the bracket: how many states there are of each kind. -/
namespace Go.Proofs.YtihijieciogabaaDoor

/-- Where a state is counted: by its exponent, by its rings. -/
def ixE (n s : Nat) : Nat := (exS s n + n).toNat
def ixS (C : List Cr) (lo wide s : Nat) : Nat := ixE C.length s * wide + rgS C lo s
def cq (C : List Cr) (lo wide : Nat) : Nat → Nat → Nat
  | 0, _ => 0
  | S + 1, q => cq C lo wide S q + (if ixS C lo wide S = q then 1 else 0)
theorem ixE_le (n s : Nat) : ixE n s ≤ 2 * n ∧ ((ixE n s : Nat) : Int) = exS s n + n := by
  have := ex_bd s n
  unfold ixE; omega
/-- What the pairs come to, rings below R whole, and of R the first E. -/
def gP (C : List Cr) (lo wide S : Nat) (T : Nat → Nat → Int) (R E : Nat) : Int :=
  sumS R (fun r => sumS (2 * C.length + 1) fun e => (cq C lo wide S (e * wide + (r + 1)) : Int) * T (r + 1) e) + sumS E fun e => (cq C lo wide S (e * wide + (R + 1)) : Int) * T (R + 1) e
theorem gP_next (C : List Cr) (lo wide S : Nat) (T : Nat → Nat → Int) (R E : Nat) : gP C lo wide S T R (E + 1) = gP C lo wide S T R E + (cq C lo wide S (E * wide + (R + 1)) : Int) * T (R + 1) E := by
  unfold gP
  exact (Int.add_assoc _ _ _).symm
theorem gP_row (C : List Cr) (lo wide S : Nat) (T : Nat → Nat → Int) (R : Nat) : gP C lo wide S T R (2 * C.length + 1) = gP C lo wide S T (R + 1) 0 := by
  unfold gP
  exact (Int.add_zero _).symm
theorem gP_zero (C : List Cr) (lo wide S : Nat) (T : Nat → Nat → Int) : gP C lo wide S T 0 0 = 0 := rfl
theorem sum_pick {n i0 : Nat} (v : Nat → Int) (h : i0 < n) : sumS n (fun i => if i = i0 then v i else 0) = v i0 := by
  induction n with
  | zero => omega
  | succ n ih =>
    show sumS n _ + (if n = i0 then v n else 0) = v i0
    by_cases e : n = i0
    · subst e
      rw [if_pos rfl, sumS_congr (g := fun _ => 0) fun i hi => by rw [if_neg (by omega)], sumS_zero]; omega
    · rw [ih (by omega), if_neg e]; omega
theorem ix_iff {wide e r e0 r0 : Nat} (hr : r < wide) (hr0 : r0 < wide) : e0 * wide + r0 = e * wide + r ↔ e = e0 ∧ r = r0 := by
  constructor
  · intro h
    have h1 : (e0 * wide + r0) / wide = (e * wide + r) / wide := by rw [h]
    have h2 : (e0 * wide + r0) % wide = (e * wide + r) % wide := by rw [h]
    rw [Nat.mul_comm e0, Nat.mul_comm e, Nat.mul_add_div (by omega), Nat.mul_add_div (by omega), Nat.div_eq_of_lt hr, Nat.div_eq_of_lt hr0] at h1
    rw [Nat.mul_comm e0, Nat.mul_comm e, Nat.mul_add_mod, Nat.mul_add_mod, Nat.mod_eq_of_lt hr, Nat.mod_eq_of_lt hr0] at h2
    omega
  · rintro ⟨rfl, rfl⟩; rfl
/-- All pairs together are all states. -/
theorem gP_all (C : List Cr) (lo wide : Nat) (T : Nat → Nat → Int) : ∀ S, (∀ s, s < S → 1 ≤ rgS C lo s ∧ rgS C lo s < wide) → gP C lo wide S T (wide - 1) 0 = sumS S fun s => T (rgS C lo s) (ixE C.length s)
  | 0, _ => by
    unfold gP
    show sumS (wide - 1) (fun r => sumS (2 * C.length + 1) fun e => ((0 : Nat) : Int) * T (r + 1) e) + 0 = 0
    rw [sumS_congr (g := fun _ => 0) fun r _ => by rw [sumS_congr (g := fun _ => 0) fun e _ => by simp, sumS_zero], sumS_zero]; rfl
  | S + 1, h => by
    have ih := gP_all C lo wide T S fun s hs => h s (by omega)
    have hS := h S (by omega)
    have hE := (ixE_le C.length S).1
    show gP C lo wide (S + 1) T (wide - 1) 0 = sumS S _ + T (rgS C lo S) (ixE C.length S)
    rw [← ih]
    unfold gP
    show sumS (wide - 1) _ + 0 = (sumS (wide - 1) _ + 0) + _
    have e1 : ∀ r, r < wide - 1 → sumS (2 * C.length + 1) (fun e => (cq C lo wide (S + 1) (e * wide + (r + 1)) : Int) * T (r + 1) e) = sumS (2 * C.length + 1) (fun e => (cq C lo wide S (e * wide + (r + 1)) : Int) * T (r + 1) e) + (if r = rgS C lo S - 1 then T (r + 1) (ixE C.length S) else 0) := by
      intro r hr
      have e2 : ∀ e, e < 2 * C.length + 1 → (cq C lo wide (S + 1) (e * wide + (r + 1)) : Int) * T (r + 1) e = (cq C lo wide S (e * wide + (r + 1)) : Int) * T (r + 1) e + (if e = ixE C.length S then (if r = rgS C lo S - 1 then T (r + 1) e else 0) else 0) := by
        intro e _
        have hix : ixS C lo wide S = e * wide + (r + 1) ↔ e = ixE C.length S ∧ r + 1 = rgS C lo S := ix_iff (by omega) hS.2
        show ((cq C lo wide S (e * wide + (r + 1)) + (if ixS C lo wide S = e * wide + (r + 1) then 1 else 0) : Nat) : Int) * _ = _
        by_cases q1 : e = ixE C.length S <;> by_cases q2 : r = rgS C lo S - 1
        · rw [if_pos (hix.2 ⟨q1, by omega⟩), if_pos q1, if_pos q2, Int.natCast_add, Int.add_mul]; simp
        · rw [if_neg (fun e' => q2 (by have := (hix.1 e').2; omega)), if_pos q1, if_neg q2]; simp
        · rw [if_neg (fun e' => q1 (hix.1 e').1), if_neg q1]; simp
        · rw [if_neg (fun e' => q1 (hix.1 e').1), if_neg q1]; simp
      rw [sumS_congr e2, sumS_add, sum_pick _ (by omega)]
    rw [sumS_congr e1, sumS_add, sum_pick (fun r => T (r + 1) (ixE C.length S)) (show rgS C lo S - 1 < wide - 1 by omega), show rgS C lo S - 1 + 1 = rgS C lo S by omega]
    omega
theorem sumS_mono {n m : Nat} {f : Nat → Int} (h : n ≤ m) (hf : ∀ i, 0 ≤ f i) : sumS n f ≤ sumS m f := by
  induction h with
  | refl => exact Int.le_refl _
  | step _ ih => exact Int.le_trans ih (Int.le_add_of_nonneg_right (hf _))
theorem sumS_nonneg (n : Nat) {f : Nat → Int} (hf : ∀ i, 0 ≤ f i) : 0 ≤ sumS n f := by
  have := sumS_mono (Nat.zero_le n) hf; exact this
/-- As many as there are states, at most. -/
def nP (C : List Cr) (lo wide S R E : Nat) : Int := gP C lo wide S (fun _ _ => 1) R E
theorem nP_le (C : List Cr) (lo wide S : Nat) (h : ∀ s, s < S → 1 ≤ rgS C lo s ∧ rgS C lo s < wide) {R E : Nat} (hR : R < wide - 1) (hE : E ≤ 2 * C.length + 1) : nP C lo wide S R E ≤ S := by
  have hall := gP_all C lo wide (fun _ _ => 1) S h
  have h1 : sumS S (fun _ => (1 : Int)) = S := by
    clear h hall
    induction S with
    | zero => rfl
    | succ S ih => show sumS S _ + 1 = _; rw [ih]; omega
  rw [h1] at hall
  rw [← hall]
  have hnn : ∀ r i, 0 ≤ (cq C lo wide S (i * wide + (r + 1)) : Int) * 1 := fun r i => by omega
  have hm : sumS E (fun e => (cq C lo wide S (e * wide + (R + 1)) : Int) * 1) ≤ sumS (2 * C.length + 1) (fun e => (cq C lo wide S (e * wide + (R + 1)) : Int) * 1) := sumS_mono hE (hnn R)
  have hm2 := sumS_mono (n := R + 1) (m := wide - 1) (f := fun r => sumS (2 * C.length + 1) fun e => (cq C lo wide S (e * wide + (r + 1)) : Int) * 1) (by omega) (fun r => sumS_nonneg _ (hnn r))
  have hm3 : sumS (R + 1) (fun r => sumS (2 * C.length + 1) fun e => (cq C lo wide S (e * wide + (r + 1)) : Int) * 1) = sumS R (fun r => sumS (2 * C.length + 1) fun e => (cq C lo wide S (e * wide + (r + 1)) : Int) * 1) + sumS (2 * C.length + 1) (fun e => (cq C lo wide S (e * wide + (R + 1)) : Int) * 1) := rfl
  have hz : ∀ R, gP C lo wide S (fun _ _ => 1) R 0 = sumS R (fun r => sumS (2 * C.length + 1) fun e => (cq C lo wide S (e * wide + (r + 1)) : Int) * 1) := fun R => Int.add_zero _
  have hy : nP C lo wide S R E = sumS R (fun r => sumS (2 * C.length + 1) fun e => (cq C lo wide S (e * wide + (r + 1)) : Int) * 1) + sumS E (fun e => (cq C lo wide S (e * wide + (R + 1)) : Int) * 1) := rfl
  rw [hy, hz]
  omega
theorem abs_sum {n : Nat} {f g : Nat → Int} (h : ∀ i, i < n → -(g i) ≤ f i ∧ f i ≤ g i) : -(sumS n g) ≤ sumS n f ∧ sumS n f ≤ sumS n g := by
  induction n with
  | zero => exact ⟨Int.le_refl _, Int.le_refl _⟩
  | succ n ih =>
    have a := ih fun i hi => h i (by omega)
    have b := h n (by omega)
    show -(sumS n g + g n) ≤ sumS n f + f n ∧ sumS n f + f n ≤ sumS n g + g n
    omega
theorem mul_sup {c : Nat} {t : Int} {H : Nat} (h : t.natAbs ≤ H) : -((c : Int) * 1 * H) ≤ (c : Int) * t ∧ (c : Int) * t ≤ (c : Int) * 1 * H := by
  have e : ((c : Int) * t).natAbs ≤ c * H := by
    rw [Int.natAbs_mul]
    exact Nat.mul_le_mul (by omega) h
  have e2 : ((c * H : Nat) : Int) = (c : Int) * 1 * H := by rw [Int.mul_one]; exact Int.natCast_mul _ _
  omega
theorem sum_mulR (n : Nat) (f : Nat → Int) (H : Int) : sumS n (fun i => f i * H) = sumS n f * H := by
  induction n with
  | zero => show (0 : Int) = 0 * H; omega
  | succ n ih => show sumS n _ + f n * H = (sumS n f + f n) * H; rw [ih, Int.add_mul]
theorem gP_bd (C : List Cr) (lo wide S : Nat) (T : Nat → Nat → Int) (H R E : Nat) (hT : ∀ r e, r ≤ R → (T (r + 1) e).natAbs ≤ H) : -(nP C lo wide S R E * H) ≤ gP C lo wide S T R E ∧ gP C lo wide S T R E ≤ nP C lo wide S R E * H := by
  have hrow : ∀ r E, r ≤ R → -(sumS E (fun e => (cq C lo wide S (e * wide + (r + 1)) : Int) * 1) * H) ≤ sumS E (fun e => (cq C lo wide S (e * wide + (r + 1)) : Int) * T (r + 1) e) ∧ sumS E (fun e => (cq C lo wide S (e * wide + (r + 1)) : Int) * T (r + 1) e) ≤ sumS E (fun e => (cq C lo wide S (e * wide + (r + 1)) : Int) * 1) * H := by
    intro r E hr
    rw [← sum_mulR]
    exact abs_sum fun e _ => mul_sup (hT _ _ hr)
  have hall := abs_sum (n := R) (f := fun r => sumS (2 * C.length + 1) fun e => (cq C lo wide S (e * wide + (r + 1)) : Int) * T (r + 1) e) (g := fun r => sumS (2 * C.length + 1) (fun e => (cq C lo wide S (e * wide + (r + 1)) : Int) * 1) * H) fun r hr => hrow r _ (Nat.le_of_lt hr)
  rw [sum_mulR] at hall
  have h2 := hrow R E (Nat.le_refl _)
  have hy : nP C lo wide S R E = sumS R (fun r => sumS (2 * C.length + 1) fun e => (cq C lo wide S (e * wide + (r + 1)) : Int) * 1) + sumS E (fun e => (cq C lo wide S (e * wide + (R + 1)) : Int) * 1) := rfl
  rw [hy, Int.add_mul]
  unfold gP
  omega
theorem rg_may {C : List Cr} {lo : Nat} (hm : mayD C (lo : Nat) = true) (h12 : C.length ≤ 12) (s : Nat) : 1 ≤ rgS C lo s ∧ rgS C lo s < 2 * C.length + lo + 1 := by
  have hj := join_le (prS (arN C) s) (2 * C.length)
  obtain ⟨s1, s2, s3, s4⟩ := sizeB_iff (may_size hm)
  unfold rgS
  by_cases h0 : C.length = 0
  · have e : joinP (prS (arN C) s) (2 * C.length) = 0 := by rw [h0]; rfl
    rw [e]; omega
  · have := rings_cut hm h12 (by omega) s
    omega
end Go.Proofs.YtihijieciogabaaDoor
