/- Several texts of the proof, one behind the other. -/
import Derived.Test.YtiighhmgegkemaaI2P
import Derived.Test.YtiighhmgegkemaaF3P
import Derived.Test.YtiighhmgegkemaaW11P
import Derived.Test.YtiighhmgegkemaaK1P
/- The walks of picked and renamed. -/
namespace Go.Proofs.Ytiighhmgegkemaa
open Go.RowKit

set_option maxHeartbeats 1000000 in
theorem picked_any (x : Int) (n : Nat) (w : World) (hx : -9223372036854775808 ≤ x ∧ x ≤ 9223372036854775807) (h0 : 0 < n) (h1 : n ≤ 1000) :
    Calls Try.prog 41 #[.int .i64 x, .int .i64 (n : Nat)] w fun e w' => ∃ r : Nat, e = .returned (.int .i64 (r : Nat)) ∧ r < n ∧ w' = w := by
  have hz : ((n : Int) == 0) = false := beq_eq_false_iff_ne.2 (by omega)
  by_cases hn : x < 0
  · have hd : decide (x < 0) = true := decide_eq_true hn
    have e1 : IntKind.i64.wrap (x + 1) = x + 1 := IntWalk.i64_in _ (by omega)
    have e2 : IntKind.i64.wrap (-(x + 1)) = -(x + 1) := IntWalk.i64_in _ (by omega)
    obtain ⟨q, hq⟩ : ∃ q : Nat, -(x + 1) = (q : Int) := ⟨(-(x + 1)).toNat, by omega⟩
    have er : (q : Int).tmod (n : Int) = ((q % n : Nat) : Int) := rfl
    have hlt := Nat.mod_lt q h0
    have e3 : IntKind.i64.wrap ((q % n : Nat) : Int) = ((q % n : Nat) : Int) := IntWalk.i64_in _ (by omega)
    go_enter Try.func41, Try.ntmps41
    go_wp2
    go_ret
    exact ⟨q % n, by simp, hlt, rfl⟩
  · have hd : decide (x < 0) = false := decide_eq_false hn
    obtain ⟨q, hq⟩ : ∃ q : Nat, x = (q : Int) := ⟨x.toNat, by omega⟩
    subst hq
    have er : (q : Int).tmod (n : Int) = ((q % n : Nat) : Int) := rfl
    have hlt := Nat.mod_lt q h0
    have e3 : IntKind.i64.wrap ((q % n : Nat) : Int) = ((q % n : Nat) : Int) := IntWalk.i64_in _ (by omega)
    go_enter Try.func41, Try.ntmps41
    go_wp2
    go_ret
    exact ⟨q % n, by simp, hlt, rfl⟩

theorem cut_ren {T G : Prop} (h : Hid T → G) (hT : T) : G := h hT
/-- The boxes of renamed, and the names so far. -/
structure RnSt (w : World) (a : Option Addr) (cap n : Nat) (loops : Int) (N : Nat) (L : List Nat) (wr : World) : Prop where
  d : wr.heap[w.heap.size]? = some (.cells #[.slice a n cap, .int .i64 loops] 35 (0, 0))
  z : wr.heap[w.heap.size + 1]? = some (.cells #[.slice none 0 0, .int .i64 0] 35 (0, 0))
  nm : wr.ownsRow (w.heap.size + 2) 3 1 (.slice (some ⟨w.heap.size + 2, 0, none⟩) N N) N (nats L)
  bel : Below w.heap.size w wr
theorem RnSt.set {w : World} {a : Option Addr} {cap n : Nat} {loops : Int} {N : Nat} {L : List Nat} {wr : World} (h : RnSt w a cap n loops N L wr) (x v : Nat) : RnSt w a cap n loops N (L.set x v) (wr.setCell ⟨w.heap.size + 2, x, none⟩ (.int .i64 (v : Nat))) := by
  have hst := h.nm.stored x (.int .i64 (v : Nat))
  rw [nats_set] at hst
  have hl := (h.nm.lt (w.heap.size + 2) rfl).2
  exact ⟨(hst.2.block _ (by omega) (fun e => by have : w.heap.size = w.heap.size + 2 := Option.some.inj e; omega)).trans h.d, (hst.2.block _ (by omega) (fun e => by have : w.heap.size + 1 = w.heap.size + 2 := Option.some.inj e; omega)).trans h.z, hst.1, h.bel.grown hst.2 h.bel.size (fun q hq => by have := Option.some.inj hq; omega)⟩
theorem RnSt.at_ {w : World} {a : Option Addr} {cap n : Nat} {loops : Int} {N : Nat} {L : List Nat} {wr : World} (h : RnSt w a cap n loops N L wr) (hL : L.length = N) (x : Nat) (hx : x < N) : wr.cell? ⟨w.heap.size + 2, x, none⟩ = some (.int .i64 (L.getD x 0 : Nat)) ∧ wr.frozen? ⟨w.heap.size + 2, x, none⟩ = false ∧ w.heap.size + 2 < wr.heap.size :=
  ⟨by rw [h.nm.cellAt x (by omega)]; exact nats_get _ x (by omega), h.nm.frozenAt x, (h.nm.lt (w.heap.size + 2) rfl).2⟩
theorem RnSt.drew {w : World} {a : Option Addr} {cap n : Nat} {loops : Int} {N : Nat} {L : List Nat} {wr : World} (h : RnSt w a cap n loops N L wr) : RnSt w a cap n loops N L wr.drew :=
  ⟨h.d, h.z, own_any h.nm (grown_below ((Below.refl _ _).drew) none), h.bel.drew⟩
end Go.Proofs.Ytiighhmgegkemaa
/- The walk of renamed where there is no crossing. -/
namespace Go.Proofs.Ytiighhmgegkemaa
open Go.RowKit

set_option maxHeartbeats 4000000 in
set_option maxRecDepth 100000 in
theorem renamed_nil (a : Option Addr) (cap : Nat) (loops : Int) (aa ao : Option Addr) (nA nO ca co : Nat) (w : World) (hAl : nA ≤ 140737488355328) (hOl : nO ≤ 140737488355328) :
    Calls Try.prog 37 #[.agg #[.slice a 0 cap, .int .i64 loops], .slice aa nA ca, .slice ao nO co] w fun e w' => e = .returned (.agg #[.slice none 0 0, .int .i64 loops]) ∧ Below w.heap.size w w' := by
  obtain ⟨i2, hk, hx0, hx1, hx2⟩ := info_parts infoInt
  go_enter Try.func37, Try.ntmps37
  go_wp2_with (first | (at_make; refine wpList_make_full _ rfl _ _ 52 rfl (w.heap.size + 2) 3 i2 (.int .i64 0) 1 Try.underlying52 hk hx0 hx1 .i64 .i64 _ _ 1 rfl rfl rfl rfl (by rw [hx2]; omega) (by unfold maxLen; omega) (by simp) ?_; intro w1 hrow hg1; refine Hid.out ?_))
  refine Lib.hid ?_
  rw [made_zeroN, labTo_zero] at hrow
  have HP0 : Hid (RnSt w a cap 0 loops 1 (labTo 1 0) w1) := (by
    have hs0 : ((w.alloc (.cells #[.slice a 0 cap, .int .i64 loops] 35)).alloc (.cells #[.slice none 0 0, .int .i64 0] 35)).heap.size = w.heap.size + 2 := by simp
    refine ⟨?_, ?_, (by simpa using hrow), (below2 _ _ _).grown hg1 (by rw [hs0]; omega) (fun k hk => by cases hk)⟩
    · exact (hg1.block _ (by rw [hs0]; omega) (by simp)).trans (alloc_old (alloc_at rfl))
    · exact (hg1.block _ (by rw [hs0]; omega) (by simp)).trans (alloc_at (by simp)) : RnSt w a cap 0 loops 1 (labTo 1 0) w1)
  clear hrow hg1
  go_wp2
  go_loopw [9] (fun v9 wr => ∃ i : Nat, i ≤ 1 ∧ v9 = .int .i64 (i : Nat) ∧ Hid (RnSt w a cap 0 loops 1 (labTo 1 i) wr)) (fun v9 _ => 1 - (intOf v9).toNat)
  case atStart => exact ⟨0, by omega, rfl, HP0⟩
  case round =>
    clear HP0
    rename World => W1
    obtain ⟨i, hin, rfl, hp⟩ := hrel
    by_cases hil : i < 1
    · have HST : Hid (RnSt w a cap 0 loops 1 (labTo 1 (i + 1)) (W1.setCell ⟨w.heap.size + 2, i, none⟩ (.int .i64 (i : Nat)))) := (by have h := hp.out.set i i; rw [labTo_next] at h; exact h : RnSt w a cap 0 loops 1 (labTo 1 (i + 1)) (W1.setCell ⟨w.heap.size + 2, i, none⟩ (.int .i64 (i : Nat))))
      obtain ⟨e0, z0, hlt⟩ := hp.out.at_ (by simp [labTo]) i hil
      obtain rfl : i = 0 := by omega
      go_wp2
      go_roundw
      case rel => exact ⟨1, by omega, by go_num, HST⟩
      case measure => simp only [intOf]; omega
    · obtain rfl : i = 1 := by omega
      have t0 : W1.cell? ⟨w.heap.size, 0, none⟩ = some (.slice a 0 cap) := block_cell hp.out.d rfl
      have t1 : W1.cell? ⟨w.heap.size, 1, none⟩ = some (.int .i64 loops) := block_cell hp.out.d rfl
      have hlt : w.heap.size + 2 < W1.heap.size := (hp.out.nm.lt (w.heap.size + 2) rfl).2
      obtain ⟨Y, hY⟩ : ∃ Y, Y = W1.alloc (.cells #[.slice none 0 0, .int .i64 loops] 35) := ⟨_, rfl⟩
      have HY : Hid (Y = W1.alloc (.cells #[.slice none 0 0, .int .i64 loops] 35)) := hY
      have hb : Below W1.heap.size W1 Y := by rw [hY]; exact (Below.refl _ _).alloc (Nat.le_refl _) _
      have HBY : Hid (Below w.heap.size w Y) := hp.out.bel.trans (hb.mono hp.out.bel.size)
      have hT : Y.heap[W1.heap.size]? = some (.cells #[.slice none 0 0, .int .i64 loops] 35 (0, 0)) := by rw [hY]; exact alloc_at rfl
      have hz := (hb.block (w.heap.size + 1) (by omega)).trans hp.out.z
      have HZ : Hid (Y.heap[w.heap.size + 1]? = some (.cells #[.slice none 0 0, .int .i64 0] 35 (0, 0))) := hz
      have hd := (hb.block w.heap.size (by omega)).trans hp.out.d
      have y0 : Y.cell? ⟨W1.heap.size, 0, none⟩ = some (.slice none 0 0) := block_cell hT rfl
      have y1 : Y.cell? ⟨W1.heap.size, 1, none⟩ = some (.int .i64 loops) := block_cell hT rfl
      have r0 : Y.cell? ⟨w.heap.size + 1, 0, none⟩ = some (.slice none 0 0) := block_cell hz rfl
      have r1 : Y.cell? ⟨w.heap.size + 1, 1, none⟩ = some (.int .i64 0) := block_cell hz rfl
      have z0 : Y.frozen? ⟨w.heap.size + 1, 0, none⟩ = false := block_frozen hz
      have z1 : Y.frozen? ⟨w.heap.size + 1, 1, none⟩ = false := block_frozen hz
      have s0 : Y.cell? ⟨w.heap.size, 0, none⟩ = some (.slice a 0 cap) := block_cell hd rfl
      have lY : W1.heap.size < Y.heap.size := (Array.getElem?_eq_some_iff.1 hT).1
      have lz : w.heap.size + 1 < Y.heap.size := by omega
      have ld : w.heap.size < Y.heap.size := by omega
      clear hY hb hT hz hd hp
      go_wp2
      go_loopw [10] (fun v10 wr => v10 = .int .i64 0 ∧ wr = W1) (fun _ _ => 0)
      case atStart => exact ⟨rfl, rfl⟩
      case round =>
        rename World => W2
        obtain ⟨rfl, e2⟩ := hrel
        replace e2 := e2.symm
        subst e2
        by_cases hA : 0 < nA
        · have dA : decide ((0 : Int) < (nA : Int)) = true := by simp; omega
          go_wp2
          rw [← HY.out]
          go_loopw [14] (fun v14 wr => v14 = .int .i64 0 ∧ wr = Y) (fun _ _ => 0)
          case atStart => exact ⟨rfl, rfl⟩
          case round =>
            obtain ⟨rfl, e3⟩ := hrel
            replace e3 := e3.symm
            subst e3
            go_wp2
            go_loopw [16] (fun v16 wr => v16 = .int .i64 0 ∧ wr = Y) (fun _ _ => 0)
            case atStart => exact ⟨rfl, rfl⟩
            case round =>
              obtain ⟨rfl, e3⟩ := hrel
              replace e3 := e3.symm
              subst e3
              by_cases hO : 0 < nO
              · have dO : decide ((0 : Int) < (nO : Int)) = true := by simp; omega
                go_wp2
                have hX := set_block (i := 1) (u := .int .i64 loops) (set_block (i := 0) (u := .slice none 0 0) HZ.out)
                have x0 := block_cell (i := 0) (v := .slice none 0 0) hX rfl
                have x1 := block_cell (i := 1) (v := .int .i64 loops) hX rfl
                exact bodyPost_ret (v := .agg #[.slice none 0 0, .int .i64 loops]) (by simp [results, Try.results37, go_sem, x0, x1]) rfl ⟨rfl, HBY.out.grown (st2_grown Y (w.heap.size + 1) 0 (.slice none 0 0) (.int .i64 loops)) HBY.out.size (fun q hq => by have : w.heap.size + 1 = q := Option.some.inj hq; omega)⟩
              · have dO : decide ((0 : Int) < (nO : Int)) = false := by simp; omega
                go_wp2
                have hX := set_block (i := 1) (u := .int .i64 loops) (set_block (i := 0) (u := .slice none 0 0) HZ.out)
                have x0 := block_cell (i := 0) (v := .slice none 0 0) hX rfl
                have x1 := block_cell (i := 1) (v := .int .i64 loops) hX rfl
                exact bodyPost_ret (v := .agg #[.slice none 0 0, .int .i64 loops]) (by simp [results, Try.results37, go_sem, x0, x1]) rfl ⟨rfl, HBY.out.grown (st2_grown Y (w.heap.size + 1) 0 (.slice none 0 0) (.int .i64 loops)) HBY.out.size (fun q hq => by have : w.heap.size + 1 = q := Option.some.inj hq; omega)⟩
        · have dA : decide ((0 : Int) < (nA : Int)) = false := by simp; omega
          go_wp2
          rw [← HY.out]
          go_loopw [14] (fun v14 wr => v14 = .int .i64 0 ∧ wr = Y) (fun _ _ => 0)
          case atStart => exact ⟨rfl, rfl⟩
          case round =>
            obtain ⟨rfl, e3⟩ := hrel
            replace e3 := e3.symm
            subst e3
            go_wp2
            go_loopw [16] (fun v16 wr => v16 = .int .i64 0 ∧ wr = Y) (fun _ _ => 0)
            case atStart => exact ⟨rfl, rfl⟩
            case round =>
              obtain ⟨rfl, e3⟩ := hrel
              replace e3 := e3.symm
              subst e3
              by_cases hO : 0 < nO
              · have dO : decide ((0 : Int) < (nO : Int)) = true := by simp; omega
                go_wp2
                have hX := set_block (i := 1) (u := .int .i64 loops) (set_block (i := 0) (u := .slice none 0 0) HZ.out)
                have x0 := block_cell (i := 0) (v := .slice none 0 0) hX rfl
                have x1 := block_cell (i := 1) (v := .int .i64 loops) hX rfl
                exact bodyPost_ret (v := .agg #[.slice none 0 0, .int .i64 loops]) (by simp [results, Try.results37, go_sem, x0, x1]) rfl ⟨rfl, HBY.out.grown (st2_grown Y (w.heap.size + 1) 0 (.slice none 0 0) (.int .i64 loops)) HBY.out.size (fun q hq => by have : w.heap.size + 1 = q := Option.some.inj hq; omega)⟩
              · have dO : decide ((0 : Int) < (nO : Int)) = false := by simp; omega
                go_wp2
                have hX := set_block (i := 1) (u := .int .i64 loops) (set_block (i := 0) (u := .slice none 0 0) HZ.out)
                have x0 := block_cell (i := 0) (v := .slice none 0 0) hX rfl
                have x1 := block_cell (i := 1) (v := .int .i64 loops) hX rfl
                exact bodyPost_ret (v := .agg #[.slice none 0 0, .int .i64 loops]) (by simp [results, Try.results37, go_sem, x0, x1]) rfl ⟨rfl, HBY.out.grown (st2_grown Y (w.heap.size + 1) 0 (.slice none 0 0) (.int .i64 loops)) HBY.out.size (fun q hq => by have : w.heap.size + 1 = q := Option.some.inj hq; omega)⟩
end Go.Proofs.Ytiighhmgegkemaa
