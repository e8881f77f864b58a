/- Rows of moves: the walk of moves.Row. -/
import Derived.Test.YtagaajlbkfkaiaaMV2P
import Derived.Deep.RegionHeld3
import Derived.Deep.LoopGhost
namespace Go.Proofs.Ytagaajlbkfkaiaa
open Go.RowKit

/-- The three boxes of Row. -/
theorem row_boxes (a : Option Addr) (n c : Nat) (loops : Int) (w Y : World) (hY : Y = ((w.alloc (.cells #[.slice a n c, .int .i64 loops] 24)).alloc (.cells #[.slice none 0 0, .int .i64 0] 24)).alloc (.cells #[.int .i64 0] 29)) :
    Below w.heap.size w Y ∧ Y.heap.size = w.heap.size + 3 ∧ Y.heap[w.heap.size]? = some (.cells #[.slice a n c, .int .i64 loops] 24 (0, 0)) ∧ Y.heap[w.heap.size + 1]? = some (.cells #[.slice none 0 0, .int .i64 0] 24 (0, 0)) ∧ Y.heap[w.heap.size + 1 + 1]? = some (.cells #[.int .i64 0] 29 (0, 0)) := by
  subst hY
  exact ⟨(((Below.refl _ _).alloc (Nat.le_refl _) _).alloc (by simp) _).alloc (by simp only [sz_allocM]; omega) _, by simp, alloc_old (alloc_old (alloc_at rfl)), alloc_old (alloc_at (by simp)), alloc_at (by simp)⟩

theorem row_gave {R : Ending → World → Prop} (B : Nat) (tm : Array Value) (a : Option Addr) (n c : Nat) (lo done why : Int) (w5 : World) (h4 : tm[4]? = some (.pointer (some ⟨B + 1, 0, none⟩))) (h5 : tm[5]? = some (.int .i64 done)) (h6 : tm[6]? = some (.pointer (some ⟨B + 1 + 1, 0, none⟩)))
    (q2 : w5.heap[B + 1]? = some (.cells #[.slice a n c, .int .i64 lo] 24 (0, 0))) (q3 : w5.heap[B + 1 + 1]? = some (.cells #[.int .i64 0] 29 (0, 0)))
    (hR : ∀ w', w5.grownBy w' (some (B + 1 + 1)) → R (.returned (.tuple #[.agg #[.slice a n c, .int .i64 lo], .int .i64 done, .int .i64 why])) w') :
    bodyPostD Try.prog Try.f13 R (.panic (gaveUp why)) { tmps := tm, defers := [{ target := Target.fn (Fn.func 40) #[.pointer (some ⟨B + 1 + 1, 0, none⟩)], args := #[] }] } w5 := by
  have c3 : w5.cell? ⟨B + 1 + 1, 0, none⟩ = some (.int .i64 0) := block_cell q3 rfl
  have z3 : w5.frozen? ⟨B + 1 + 1, 0, none⟩ = false := frozM q3
  refine leaves_cons (f := 40) (args := #[.pointer (some ⟨B + 1 + 1, 0, none⟩)]) (by simp) (by simp [go_sem]) ?_
  refine (caughtR ⟨B + 1 + 1, 0, none⟩ 0 why [] w5 c3 z3).mono ?_
  rintro e u' w'' ⟨rfl, rfl, rfl⟩
  have g3 := set_grown w5 (B + 1 + 1) 0 (.int .i64 why)
  have r3 := set_block (i := 0) (u := .int .i64 why) q3
  have r2 := (g3.block (B + 1) (Array.getElem?_eq_some_iff.1 q2).1 (fun e => by have := Option.some.inj e; omega)).trans q2
  have x0 := block_cell (i := 0) (v := .slice a n c) r2 rfl
  have x1 := block_cell (i := 1) (v := .int .i64 lo) r2 rfl
  have x2 := block_cell (i := 0) (v := .int .i64 why) r3 rfl
  have hfin := hR _ g3
  simp [Leaves, settle, results, Try.results13, go_sem, h4, h5, h6, x0, x1, x2, hfin]
theorem row_done {R : Ending → World → Prop} (B : Nat) (tm : Array Value) (a : Option Addr) (n c : Nat) (lo done : Int) (w5 : World) (h4 : tm[4]? = some (.pointer (some ⟨B + 1, 0, none⟩))) (h5 : tm[5]? = some (.int .i64 done)) (h6 : tm[6]? = some (.pointer (some ⟨B + 1 + 1, 0, none⟩)))
    (q2 : w5.heap[B + 1]? = some (.cells #[.slice a n c, .int .i64 lo] 24 (0, 0))) (q3 : w5.heap[B + 1 + 1]? = some (.cells #[.int .i64 0] 29 (0, 0)))
    (hR : R (.returned (.tuple #[.agg #[.slice a n c, .int .i64 lo], .int .i64 done, .int .i64 0])) w5) :
    bodyPostD Try.prog Try.f13 R .ret { tmps := tm, defers := [{ target := Target.fn (Fn.func 40) #[.pointer (some ⟨B + 1 + 1, 0, none⟩)], args := #[] }] } w5 := by
  refine leaves_cons (f := 40) (args := #[.pointer (some ⟨B + 1 + 1, 0, none⟩)]) (by simp) (by simp [go_sem]) ?_
  refine (uncaughtR ⟨B + 1 + 1, 0, none⟩ w5).mono ?_
  rintro e u' w'' ⟨rfl, rfl, rfl⟩
  have x0 := block_cell (i := 0) (v := .slice a n c) q2 rfl
  have x1 := block_cell (i := 1) (v := .int .i64 lo) q2 rfl
  have x2 := block_cell (i := 0) (v := .int .i64 0) q3 rfl
  show ∃ v, _ ∧ _
  refine ⟨_, ?_, hR⟩
  simp [results, Try.results13, go_sem, h4, h5, h6, x0, x1, x2]

set_option maxHeartbeats 8000000 in
set_option maxRecDepth 100000 in
theorem mvRow_state (a : Option Addr) (n c : Nat) (loops : Int) (mv : Value) (w : World) (hL : ∀ W, Below w.heap.size w W → Calls Try.prog 29 #[.agg #[.slice a n c, .int .i64 loops]] W fun e w' => e = .panicked (gaveUp 7) ∧ Below W.heap.size W w') :
    Calls Try.prog 13 #[.agg #[.slice a n c, .int .i64 loops], mv] w fun e w' => e = .returned (.tuple #[.agg #[.slice none 0 0, .int .i64 0], .int .i64 0, .int .i64 7]) ∧ Below w.heap.size w w' := by
  have HL := hidQ hL
  have hmf : ∀ (fn : Fn) (first cap : Array Value) (w : World), (Instr.makeFunc fn first cap).run Try.prog w = .ok (.func fn first cap) w := fun _ _ _ _ => rfl
  obtain ⟨Y, hY⟩ : ∃ Y, Y = ((w.alloc (.cells #[.slice a n c, .int .i64 loops] 24)).alloc (.cells #[.slice none 0 0, .int .i64 0] 24)).alloc (.cells #[.int .i64 0] 29) := ⟨_, rfl⟩
  obtain ⟨hb, hs, k0, k1, k2⟩ := row_boxes a n c loops w Y hY
  have HY := hidQ hY
  have HB := hidQ hb
  have HK1 := hidQ k1
  have HK2 := hidQ k2
  clear hL hY hb k0 k1 k2
  go_enter_defers Try.func13, Try.ntmps13
  go_wp2_with (go_at_call 29; rw [← HY.out]; refine (HL.out _ HB.out).mono ?_; rintro e9 w5 ⟨rfl, hb5⟩)
  have hbw : Below w.heap.size w w5 := HB.out.trans (hb5.mono (by omega))
  have q2 := (hb5.block _ (by omega)).trans HK1.out
  have q3 := (hb5.block _ (by omega)).trans HK2.out
  exact row_gave w.heap.size _ none 0 0 0 0 7 w5 rfl rfl rfl q2 q3 (fun w' hg => ⟨rfl, hbw.grown hg (by have := (Array.getElem?_eq_some_iff.1 q3).1; omega) (fun q hq => by have := Option.some.inj hq; omega)⟩)

/-- Row under way: the box of the diagram, that of the error. -/
structure RoAt (w W : World) (a : Option Addr) (c : Nat) (C : List Cr) (lo : Int) : Prop where
  bel : Below w.heap.size w W
  size : w.heap.size + 3 ≤ W.heap.size
  box : W.heap[w.heap.size + 1]? = some (.cells #[.slice a C.length c, .int .i64 lo] 24 (0, 0))
  err : W.heap[w.heap.size + 1 + 1]? = some (.cells #[.int .i64 0] 29 (0, 0))
  crf : CrF W (w.heap.size + 3) a c C

set_option maxHeartbeats 8000000 in
set_option maxRecDepth 100000 in
theorem mvRow_go (a : Option Addr) (c : Nat) (C : List Cr) (loops : Int) (ma : Option Addr) (mc : Nat) (ms : List Mo) (w : World) (D : Nat → List Cr) (lo ce : Nat → Int) (n : Nat) (hD0 : D 0 = C) (hlo0 : lo 0 = loops) (hl : C.length ≤ 1000) (hms : ms.length ≤ 200) (hn : n ≤ ms.length) (hok : ∀ i, i < n → ce i = 0) (hst : n < ms.length → ce n ≠ 0)
    (hC : Crs w w.heap.size (.slice a C.length c) C) (hM : Mvs w w.heap.size (.slice ma ms.length mc) ms)
    (hL : ∀ W, Below w.heap.size w W → Calls Try.prog 29 #[.agg #[.slice a C.length c, .int .i64 loops]] W fun e w' => ∃ gF cF gT cT, e = .returned (drV a c C loops gF cF gT cT) ∧ Dr w' a c C gF gT ∧ Below W.heap.size W w')
    (hW : ∀ i, i ≤ n → i < ms.length → ∀ a cap W, Crs W W.heap.size (.slice a (D i).length cap) (D i) → Ways a cap (D i) (lo i) (ms.getD i Mo.none) (D (i + 1)) (lo (i + 1)) (ce i) W) :
    Calls Try.prog 13 #[.agg #[.slice a C.length c, .int .i64 loops], .slice ma ms.length mc] w fun e w' => ∃ a2 c2, e = .returned (.tuple #[.agg #[.slice a2 (D n).length c2, .int .i64 (lo n)], .int .i64 n, .int .i64 (if n < ms.length then ce n else 0)]) ∧ Crs w' w'.heap.size (.slice a2 (D n).length c2) (D n) ∧ Below w.heap.size w w' := by
  unfold drV at hL
  have HL := hidQ hL
  have HW := hidQ hW
  have HM := hidQ hM
  have HC := hidQ hC
  have HOK := hidQ hok
  have HST := hidQ hst
  have HD0 := hidQ hD0
  have HLO0 := hidQ hlo0
  obtain ⟨len, hlen⟩ : ∃ len, ms.length = len := ⟨_, rfl⟩
  have HLEN := hidQ hlen
  rw [hlen] at hms hn
  rw [hlen]
  obtain ⟨er, her⟩ : ∃ er, (if n < len then ce n else 0) = er := ⟨_, rfl⟩
  have HER : Hid ((n < len → er = ce n) ∧ (¬ n < len → er = 0)) := ⟨fun h => by rw [← her, if_pos h], fun h => by rw [← her, if_neg h]⟩
  rw [her]
  clear her
  have hmf : ∀ (fn : Fn) (first cap : Array Value) (w : World), (Instr.makeFunc fn first cap).run Try.prog w = .ok (.func fn first cap) w := fun _ _ _ _ => rfl
  obtain ⟨Y, hY⟩ : ∃ Y, Y = ((w.alloc (.cells #[.slice a C.length c, .int .i64 loops] 24)).alloc (.cells #[.slice none 0 0, .int .i64 0] 24)).alloc (.cells #[.int .i64 0] 29) := ⟨_, rfl⟩
  obtain ⟨hb, hs, k0, k1, k2⟩ := row_boxes a C.length c loops w Y hY
  have HY := hidQ hY
  have HB := hidQ hb
  have HK1 := hidQ k1
  have HK2 := hidQ k2
  have hle : decide ((len : Int) ≤ 200) = true := decide_eq_true (by omega)
  clear hL hY hb k0 k1 k2 hW hM hC hok hst hD0 hlo0 hlen
  go_enter_defers Try.func13, Try.ntmps13
  go_upto_region 4 with (first
    | (go_at_call 41; refine (need_ok 2 _).mono ?_; rintro e9 w6 ⟨rfl, e6⟩; obtain rfl := e6.symm; clear e6)
    | (go_at_call 29; rw [← HY.out]; refine (HL.out _ HB.out).mono ?_; rintro e9 w5 ⟨gF, cF, gT, cT, rfl, hd5, hb5⟩; clear hd5; have H5 := hidQ hb5; clear hb5))
  obtain ⟨V, hV⟩ : ∃ V, w5.alloc (.cells #[.slice a C.length c, .int .i64 loops, .slice (some ⟨gF, 0, none⟩) (2 * C.length + 1) cF, .slice (some ⟨gT, 0, none⟩) (2 * C.length + 1) cT] 63) = V := ⟨_, rfl⟩
  have hbA : Below w5.heap.size w5 V := by rw [← hV]; exact (Below.refl _ _).alloc (Nat.le_refl _) _
  have kV : V.heap[w5.heap.size]? = some (.cells #[.slice a C.length c, .int .i64 loops, .slice (some ⟨gF, 0, none⟩) (2 * C.length + 1) cF, .slice (some ⟨gT, 0, none⟩) (2 * C.length + 1) cT] 63 (0, 0)) := by rw [← hV]; exact alloc_at rfl
  have lV : w5.heap.size < V.heap.size := by rw [← hV]; simp
  rw [hV]
  have HYV := hidQ (H5.out.trans (hbA.mono H5.out.size))
  have s5 := H5.out.size
  have HSV : Hid (∀ W, Below V.heap.size V W → (fun X : World => X.cell? ⟨w5.heap.size, 0, none⟩ = some (.slice a C.length c) ∧ X.cell? ⟨w5.heap.size, 1, none⟩ = some (.int .i64 loops)) W) := fun W hW => by
    have k0 := (hW.block _ lV).trans kV
    exact ⟨block_cell k0 rfl, block_cell k0 rfl⟩
  have HKV := hidQ kV
  have HDV : Hid (Below V.heap.size V V.drew) := (Below.refl _ _).drew
  clear hV hbA kV
  refine wp_region_held_drew (S := fun X : World => X.cell? ⟨w5.heap.size, 0, none⟩ = some (.slice a C.length c) ∧ X.cell? ⟨w5.heap.size, 1, none⟩ = some (.int .i64 loops)) (by kernel_rfl) (HSV.out _ HDV.out) (fun hHeld => ?_)
  refine wpAnyH_take (i := 0) (v := ?vva0) rfl (by kernel_rfl) (by kernel_rfl) (by kernel_rfl) (fun x a w' h => row_keeps 17 (by decide) (by decide) (by decide) _ x a w' h) (Or.inl ⟨by rfl, ?yya0⟩) (by assumption) ?rra0
  case yya0 => (intro w hSw; (try dsimp only at hSw); go_simp; (try with_reducible rfl))
  try simp only [Act.put]
  refine wpAnyH_take (i := 1) (v := ?vva1) rfl (by kernel_rfl) (by kernel_rfl) (by kernel_rfl) (fun x a w' h => row_keeps 18 (by decide) (by decide) (by decide) _ x a w' h) (Or.inl ⟨by rfl, ?yya1⟩) (by assumption) ?rra1
  case yya1 => (intro w hSw; (try dsimp only at hSw); go_simp; (try with_reducible rfl))
  try simp only [Act.put]
  refine wpAnyH_take (i := 2) (v := ?vva2) rfl (by kernel_rfl) (by kernel_rfl) (by kernel_rfl) (fun x a w' h => row_keeps 19 (by decide) (by decide) (by decide) _ x a w' h) (Or.inl ⟨by rfl, ?yya2⟩) (by assumption) ?rra2
  case yya2 => (intro w hSw; (try dsimp only at hSw); go_simp; (try with_reducible rfl))
  try simp only [Act.put]
  refine wpAnyH_take (i := 3) (v := ?vva3) rfl (by kernel_rfl) (by kernel_rfl) (by kernel_rfl) (fun x a w' h => row_keeps 20 (by decide) (by decide) (by decide) _ x a w' h) (Or.inl ⟨by rfl, ?yya3⟩) (by assumption) ?rra3
  case yya3 => (intro w hSw; (try dsimp only at hSw); go_simp; (try with_reducible rfl))
  try simp only [Act.put]
  refine wpAnyH_take (i := 5) (v := ?vva5) rfl (by kernel_rfl) (by kernel_rfl) (by kernel_rfl) (fun x a w' h => row_keeps 22 (by decide) (by decide) (by decide) _ x a w' h) (Or.inl ⟨by rfl, ?yya5⟩) (by assumption) ?rra5
  case yya5 => (intro w hSw; (try dsimp only at hSw); go_simp; (try with_reducible rfl))
  try simp only [Act.put]
  refine wpAnyH_take (i := 6) (v := ?vva6) rfl (by kernel_rfl) (by kernel_rfl) (by kernel_rfl) (fun x a w' h => row_keeps 23 (by decide) (by decide) (by decide) _ x a w' h) (Or.inl ⟨by rfl, ?yya6⟩) (by assumption) ?rra6
  case yya6 => (intro w hSw; (try dsimp only at hSw); go_simp; (try with_reducible rfl))
  try simp only [Act.put]
  refine wpAnyH_take (i := 7) (v := ?vva7) rfl (by kernel_rfl) (by kernel_rfl) (by kernel_rfl) (fun x a w' h => row_keeps 24 (by decide) (by decide) (by decide) _ x a w' h) (Or.inl ⟨by rfl, ?yya7⟩) (by assumption) ?rra7
  case yya7 => (intro w hSw; (try dsimp only at hSw); go_simp; (try with_reducible rfl))
  try simp only [Act.put]
  refine wpAnyH_take (i := 8) (v := ?vva8) rfl (by kernel_rfl) (by kernel_rfl) (by kernel_rfl) (fun x a w' h => row_keeps 25 (by decide) (by decide) (by decide) _ x a w' h) (Or.inl ⟨by rfl, ?yya8⟩) (by assumption) ?rra8
  case yya8 => (intro w hSw; (try dsimp only at hSw); go_simp; (try with_reducible rfl))
  try simp only [Act.put]
  clear hHeld
  refine wpAnyH_ready (rs := [4]) (by kernel_rfl) (by simp) ?_
  refine AllReadyH.cons rfl (fun K hK => ?_) AllReadyH.nil
  go_simp
  go_wp2_with (go_at_call 42; refine (clone_crs a c C _ hl (HC.out.up (HB.out.trans ((HYV.out.trans (HDV.out.mono HYV.out.size)).mono (by omega))))).mono ?_; rintro e9 w7 ⟨a7, c7, rfl, hc7, hb7⟩)
  have HB7 := hidQ (HDV.out.trans (hb7.mono HDV.out.size))
  have HC7 := hidQ hc7
  clear hb7 hc7
  refine hK.out _ _ (HSV.out _ HB7.out) (fun hHeld => ?_)
  clear hK K
  try simp only [Act.put]
  refine wpAnyH_take (i := 9) (v := ?vvb9) rfl (by kernel_rfl) (by kernel_rfl) (by kernel_rfl) (fun x a w' h => row_keeps 26 (by decide) (by decide) (by decide) _ x a w' h) (Or.inl ⟨by rfl, ?yyb9⟩) (by assumption) ?rrb9
  case yyb9 => (intro w hSw; (try dsimp only at hSw); go_simp; (try with_reducible rfl))
  try simp only [Act.put]
  clear hHeld
  have HY7 := hidQ (HYV.out.trans (HB7.out.mono HYV.out.size))
  have q2 := (HY7.out.block _ (by omega)).trans HK1.out
  have q3 := (HY7.out.block _ (by omega)).trans HK2.out
  have c0 : w7.cell? ⟨w.heap.size + 1, 0, none⟩ = some (.slice none 0 0) := block_cell q2 rfl
  have c1 : w7.cell? ⟨w.heap.size + 1, 1, none⟩ = some (.int .i64 0) := block_cell q2 rfl
  have z0 : w7.frozen? ⟨w.heap.size + 1, 0, none⟩ = false := frozM q2
  have z1 : w7.frozen? ⟨w.heap.size + 1, 1, none⟩ = false := frozM q2
  have l2 : w.heap.size + 1 < w7.heap.size := (Array.getElem?_eq_some_iff.1 q2).1
  obtain ⟨Z, hZ⟩ : ∃ Z, Z = (w7.setCell ⟨w.heap.size + 1, 0, none⟩ (.slice a7 C.length c7)).setCell ⟨w.heap.size + 1, 1, none⟩ (.int .i64 loops) := ⟨_, rfl⟩
  have hgZ : w7.grownBy Z (some (w.heap.size + 1)) := by rw [hZ]; exact grown_twoM (set_grown _ _ _ _) (set_grown _ _ _ _)
  have hZ2 : Z.heap[w.heap.size + 1]? = some (.cells #[.slice a7 C.length c7, .int .i64 loops] 24 (0, 0)) := by rw [hZ, set_block (set_block q2)]; rfl
  have hZ3 : Z.heap[w.heap.size + 1 + 1]? = some (.cells #[.int .i64 0] 29 (0, 0)) := (hgZ.block _ (Array.getElem?_eq_some_iff.1 q3).1 (fun e => by have := Option.some.inj e; omega)).trans q3
  have s7 := HB7.out.size
  have sV := HYV.out.size
  have sZ := hgZ.size
  have HRO : Hid (RoAt w Z a7 c7 (D 0) (lo 0)) := (by
    rw [HD0.out, HLO0.out]
    exact ⟨(HB.out.trans (HY7.out.mono (by omega))).grown hgZ (by omega) (fun q hq => by have := Option.some.inj hq; omega), by omega, hZ2, hZ3, CrF.put (g := w.heap.size + 1) ⟨HC7.out.crs, fun hp ad e => by have := HC7.out.far hp ad e; have hds : V.drew.heap.size = V.heap.size := rfl; omega⟩ hgZ (by omega)⟩)
  have HSZ := hidQ (show (fun X : World => X.cell? ⟨w5.heap.size, 0, none⟩ = some (.slice a C.length c) ∧ X.cell? ⟨w5.heap.size, 1, none⟩ = some (.int .i64 loops)) Z from by
    have k0 := (hgZ.block w5.heap.size (by omega) (fun e => by have := Option.some.inj e; omega)).trans ((HB7.out.block _ lV).trans HKV.out)
    exact ⟨block_cell k0 rfl, block_cell k0 rfl⟩)
  have HZE := hidQ hZ
  clear hZ
  refine wpAnyH_ready (rs := [10]) (by kernel_rfl) (by simp) ?_
  refine AllReadyH.cons rfl (fun K hK => ?_) AllReadyH.nil
  go_simp
  rw [← HZE.out]
  clear HZE
  refine hK.out _ _ HSZ.out (fun hHeld => ?_)
  clear hK K
  try simp only [Act.put]
  refine wpAnyH_done (by kernel_rfl) ?_ _
  clear hHeld HSZ hZ2 hZ3 hgZ c0 c1 z0 z1 q2 q3
  go_wp2
  clear HKV HC7 HB7 HSV HDV HYV HY7 HL HK1 HK2 HY lV s5 s7 sV sZ l2
  go_loopw [5, 29] (fun v5 v29 wr => ∃ (i : Nat) (ai : Option Addr) (ci : Nat), i ≤ n ∧ v29 = .int .i64 (i : Nat) ∧ v5 = .int .i64 (i : Nat) ∧ Hid (RoAt w wr ai ci (D i) (lo i))) (fun _ v29 _ => n + 1 - (intOf v29).toNat)
  case atStart => exact ⟨0, a7, c7, Nat.zero_le _, rfl, rfl, HRO⟩
  case round =>
    clear HRO
    rename World => W1
    obtain ⟨i, ai, ci, hi, rfl, rfl, hro⟩ := hrel
    by_cases hil : i < len
    · have hii : (i : Int) < (len : Int) := by omega
      have hii0 : (0 : Int) ≤ (i : Int) := by omega
      have hadd : IntKind.i64.wrap ((i : Int) + 1) = (i : Int) + 1 := IntWalk.i64_in _ (by omega)
      obtain ⟨m, hm⟩ : ∃ m, ms.getD i Mo.none = m := ⟨_, rfl⟩
      have HGO := hidQ (HW.out i hi (by rw [HLEN.out]; exact hil))
      have HMA := HM.out
      obtain ⟨ma', mc', em, hmm, hmo⟩ := HMA
      injection em with em1 em2 em3
      obtain ⟨mb, moff, em4, hmb, hmat⟩ := hmo (by rw [HLEN.out]; omega)
      rw [← em1] at em4
      have hcm := (hmat.on hro.out.bel hmb) i (by rw [HLEN.out]; exact hil)
      rw [hm] at hcm HGO
      obtain ⟨mk, mx, my, mu, mub, mv, mvb, mo⟩ := m
      dsimp only at hcm
      obtain ⟨g0, g1, g2, g3, g4, g5, g6, g7⟩ := hcm
      have lmb : mb < W1.heap.size := Nat.lt_of_lt_of_le hmb (by have := hro.out.size; omega)
      have HM2 := hidQ HM.out
      clear em1 em2 em3 hmo hmat hm HM hmm
      subst em4
      obtain ⟨X, hX⟩ : ∃ X, W1.alloc (.cells #[.int .i64 mk, .int .i64 mx, .int .i64 my, .int .i64 mu, .bool mub, .int .i64 mv, .bool mvb, .bool mo] 28) = X := ⟨_, rfl⟩
      have HX := hidQ hX
      have HB1 := hidQ (show Below W1.heap.size W1 X by rw [← hX]; exact (Below.refl _ _).alloc (Nat.le_refl _) _)
      have hk1 : X.heap[W1.heap.size]? = some (.cells #[.int .i64 mk, .int .i64 mx, .int .i64 my, .int .i64 mu, .bool mub, .int .i64 mv, .bool mvb, .bool mo] 28 (0, 0)) := by rw [← hX]; exact alloc_at rfl
      have hsX : X.heap.size = W1.heap.size + 1 := by rw [← hX]; simp
      have HK1 := hidQ hk1
      have hw1 := hro.out.size
      have HK2 := hidQ ((HB1.out.block _ (by omega)).trans hro.out.box)
      have HK3 := hidQ ((HB1.out.block _ (by omega)).trans hro.out.err)
      have HCF := hidQ (hro.out.crf.up HB1.out)
      have HBX := hidQ (hro.out.bel.trans (HB1.out.mono (by omega)))
      have HSV : Hid (∀ W, Below X.heap.size X W → (fun X : World => X.cell? ⟨W1.heap.size, 0, none⟩ = some (.int .i64 mk) ∧ X.cell? ⟨W1.heap.size, 1, none⟩ = some (.int .i64 mx) ∧ X.cell? ⟨W1.heap.size, 2, none⟩ = some (.int .i64 my) ∧ X.cell? ⟨W1.heap.size, 3, none⟩ = some (.int .i64 mu) ∧ X.cell? ⟨W1.heap.size, 4, none⟩ = some (.bool mub) ∧ X.cell? ⟨W1.heap.size, 5, none⟩ = some (.int .i64 mv) ∧ X.cell? ⟨W1.heap.size, 6, none⟩ = some (.bool mvb) ∧ X.cell? ⟨W1.heap.size, 7, none⟩ = some (.bool mo)) W) := fun W hW => by
        have k1 := (hW.block _ (by omega)).trans HK1.out
        exact ⟨block_cell k1 rfl, block_cell k1 rfl, block_cell k1 rfl, block_cell k1 rfl, block_cell k1 rfl, block_cell k1 rfl, block_cell k1 rfl, block_cell k1 rfl⟩
      have HDV : Hid (Below X.heap.size X X.drew) := (Below.refl _ _).drew
      have hWays := HGO.out ai ci X HCF.out.crs
      have HXS : Hid (w.heap.size + 4 ≤ X.heap.size) := (by omega : w.heap.size + 4 ≤ X.heap.size)
      have b0 : X.cell? ⟨w.heap.size + 1, 0, none⟩ = some (.slice ai (D i).length ci) := block_cell HK2.out rfl
      have b1 : X.cell? ⟨w.heap.size + 1, 1, none⟩ = some (.int .i64 (lo i)) := block_cell HK2.out rfl
      clear HGO hk1 hX hro
      unfold Ways Mo.val drV at hWays
      dsimp only at hWays
      go_upto_region 8 with (fail)
      rw [HX.out]
      clear g0 g1 g2 g3 g4 g5 g6 g7
      rcases hWays with ⟨-, -, hce, hla⟩ | ⟨hla, ⟨-, -, hce, hmo⟩ | ⟨hce, hmo⟩⟩
      · have HLA := hidQ hla
        have HCE : Hid (ce i ≠ 0) := (by rw [hce]; decide : ce i ≠ 0)
        have HC7 := hidQ hce
        clear hla hce
        refine wp_region_held_drew (S := (fun X : World => X.cell? ⟨W1.heap.size, 0, none⟩ = some (.int .i64 mk) ∧ X.cell? ⟨W1.heap.size, 1, none⟩ = some (.int .i64 mx) ∧ X.cell? ⟨W1.heap.size, 2, none⟩ = some (.int .i64 my) ∧ X.cell? ⟨W1.heap.size, 3, none⟩ = some (.int .i64 mu) ∧ X.cell? ⟨W1.heap.size, 4, none⟩ = some (.bool mub) ∧ X.cell? ⟨W1.heap.size, 5, none⟩ = some (.int .i64 mv) ∧ X.cell? ⟨W1.heap.size, 6, none⟩ = some (.bool mvb) ∧ X.cell? ⟨W1.heap.size, 7, none⟩ = some (.bool mo))) (by kernel_rfl) (HSV.out _ HDV.out) (fun hHeld => ?_)
        refine wpAnyH_take (i := 2) (v := ?vvu2) rfl (by kernel_rfl) (by kernel_rfl) (by kernel_rfl) (fun x a w' h => row_keeps 35 (by decide) (by decide) (by decide) _ x a w' h) (Or.inl ⟨by rfl, ?yyu2⟩) (by assumption) ?rru2
        case yyu2 => (intro w hSw; (try dsimp only at hSw); go_simp; (try with_reducible rfl))
        try simp only [Act.put]
        clear hHeld
        refine wpAnyH_ready (rs := [0]) (by kernel_rfl) (by simp) ?_
        refine AllReadyH.cons rfl (fun K hK => ?_) AllReadyH.nil
        go_simp
        refine hK.out _ _ (HSV.out _ HDV.out) (fun hHeld => ?_)
        clear hK K hHeld b0 b1
        try simp only [Act.put]
        refine wpAnyH_ready (rs := [1]) (by kernel_rfl) (by simp) ?_
        refine AllReadyH.cons rfl (fun K hK => ?_) AllReadyH.nil
        go_simp
        go_wp2_with (go_at_call 29; refine (HLA.out _ HDV.out).mono ?_; rintro e9 w9 ⟨rfl, hb9⟩)
        have H9 := hidQ (HDV.out.trans (hb9.mono HDV.out.size))
        clear hb9
        have q2 := (H9.out.block _ (by omega)).trans HK2.out
        have q3 := (H9.out.block _ (by omega)).trans HK3.out
        have HIN : i = n := (by
          rcases Nat.lt_or_ge i n with q | q
          · exact absurd (HOK.out i q) HCE.out
          · omega)
        refine row_gave w.heap.size _ ai (D i).length ci (lo i) i 7 _ rfl rfl rfl q2 q3 (fun w' hg => ?_)
        have hcr : CrF w' (w.heap.size + 3) ai ci (D i) := (HCF.out.up H9.out).put hg (by omega)
        have hbb : Below w.heap.size w w' := (HBX.out.trans (H9.out.mono (by omega))).grown hg (by have := H9.out.size; omega) (fun q hq => by have := Option.some.inj hq; omega)
        subst HIN
        rw [HER.out.1 hil]
        rw [HC7.out]; exact ⟨ai, ci, rfl, hcr.crs, hbb⟩
      · have HLA := hidQ hla
        have HMO := hidQ hmo
        have HCE := hidQ hce
        clear hla hce hmo
        refine wp_region_held_drew (S := (fun X : World => X.cell? ⟨W1.heap.size, 0, none⟩ = some (.int .i64 mk) ∧ X.cell? ⟨W1.heap.size, 1, none⟩ = some (.int .i64 mx) ∧ X.cell? ⟨W1.heap.size, 2, none⟩ = some (.int .i64 my) ∧ X.cell? ⟨W1.heap.size, 3, none⟩ = some (.int .i64 mu) ∧ X.cell? ⟨W1.heap.size, 4, none⟩ = some (.bool mub) ∧ X.cell? ⟨W1.heap.size, 5, none⟩ = some (.int .i64 mv) ∧ X.cell? ⟨W1.heap.size, 6, none⟩ = some (.bool mvb) ∧ X.cell? ⟨W1.heap.size, 7, none⟩ = some (.bool mo))) (by kernel_rfl) (HSV.out _ HDV.out) (fun hHeld => ?_)
        refine wpAnyH_take (i := 2) (v := ?vvv2) rfl (by kernel_rfl) (by kernel_rfl) (by kernel_rfl) (fun x a w' h => row_keeps 35 (by decide) (by decide) (by decide) _ x a w' h) (Or.inl ⟨by rfl, ?yyv2⟩) (by assumption) ?rrv2
        case yyv2 => (intro w hSw; (try dsimp only at hSw); go_simp; (try with_reducible rfl))
        try simp only [Act.put]
        clear hHeld
        refine wpAnyH_ready (rs := [0]) (by kernel_rfl) (by simp) ?_
        refine AllReadyH.cons rfl (fun K hK => ?_) AllReadyH.nil
        go_simp
        refine hK.out _ _ (HSV.out _ HDV.out) (fun hHeld => ?_)
        clear hK K hHeld b0 b1
        try simp only [Act.put]
        refine wpAnyH_ready (rs := [1]) (by kernel_rfl) (by simp) ?_
        refine AllReadyH.cons rfl (fun K hK => ?_) AllReadyH.nil
        go_simp
        go_wp2_with (go_at_call 29; refine (HLA.out _ HDV.out).mono ?_; rintro e9 w8 ⟨gF, cF, gT, cT, rfl, hd8, hb8⟩)
        have H8 := hidQ (HDV.out.trans (hb8.mono HDV.out.size))
        have HD8 := hidQ hd8
        clear hb8 hd8
        refine hK.out _ _ (HSV.out _ H8.out) (fun hHeld => ?_)
        clear hK K
        try simp only [Act.put]
        clear hHeld
        refine wpAnyH_ready (rs := [3]) (by kernel_rfl) (by simp) ?_
        refine AllReadyH.cons rfl (fun K hK => ?_) AllReadyH.nil
        go_simp
        go_wp2_with (go_at_call 30; refine (HMO.out _ _ _ _ _ HD8.out).mono ?_; rintro e9 w9 ⟨rfl, hb9⟩)
        have H9 := hidQ (H8.out.trans (hb9.mono H8.out.size))
        clear hb9
        have q2 := (H9.out.block _ (by omega)).trans HK2.out
        have q3 := (H9.out.block _ (by omega)).trans HK3.out
        have HIN : i = n := (by
          rcases Nat.lt_or_ge i n with q | q
          · exact absurd (HOK.out i q) HCE.out
          · omega)
        refine row_gave w.heap.size _ ai (D i).length ci (lo i) i (ce i) _ rfl rfl rfl q2 q3 (fun w' hg => ?_)
        have hcr : CrF w' (w.heap.size + 3) ai ci (D i) := (HCF.out.up H9.out).put hg (by omega)
        have hbb : Below w.heap.size w w' := (HBX.out.trans (H9.out.mono (by omega))).grown hg (by have := H9.out.size; omega) (fun q hq => by have := Option.some.inj hq; omega)
        subst HIN
        rw [HER.out.1 hil]
        exact ⟨ai, ci, rfl, hcr.crs, hbb⟩
      · have HLA := hidQ hla
        have HMO := hidQ hmo
        have HCE := hidQ hce
        clear hla hce hmo
        have hin : i < n := by
          rcases Nat.lt_or_ge i n with q | q
          · exact q
          · have hq : i = n := by omega
            exact absurd (hq ▸ HCE.out) (HST.out (by rw [HLEN.out]; omega))
        refine wp_region_held_drew (S := (fun X : World => X.cell? ⟨W1.heap.size, 0, none⟩ = some (.int .i64 mk) ∧ X.cell? ⟨W1.heap.size, 1, none⟩ = some (.int .i64 mx) ∧ X.cell? ⟨W1.heap.size, 2, none⟩ = some (.int .i64 my) ∧ X.cell? ⟨W1.heap.size, 3, none⟩ = some (.int .i64 mu) ∧ X.cell? ⟨W1.heap.size, 4, none⟩ = some (.bool mub) ∧ X.cell? ⟨W1.heap.size, 5, none⟩ = some (.int .i64 mv) ∧ X.cell? ⟨W1.heap.size, 6, none⟩ = some (.bool mvb) ∧ X.cell? ⟨W1.heap.size, 7, none⟩ = some (.bool mo))) (by kernel_rfl) (HSV.out _ HDV.out) (fun hHeld => ?_)
        refine wpAnyH_take (i := 2) (v := ?vvx2) rfl (by kernel_rfl) (by kernel_rfl) (by kernel_rfl) (fun x a w' h => row_keeps 35 (by decide) (by decide) (by decide) _ x a w' h) (Or.inl ⟨by rfl, ?yyx2⟩) (by assumption) ?rrx2
        case yyx2 => (intro w hSw; (try dsimp only at hSw); go_simp; (try with_reducible rfl))
        try simp only [Act.put]
        clear hHeld
        refine wpAnyH_ready (rs := [0]) (by kernel_rfl) (by simp) ?_
        refine AllReadyH.cons rfl (fun K hK => ?_) AllReadyH.nil
        go_simp
        refine hK.out _ _ (HSV.out _ HDV.out) (fun hHeld => ?_)
        clear hK K hHeld b0 b1
        try simp only [Act.put]
        refine wpAnyH_ready (rs := [1]) (by kernel_rfl) (by simp) ?_
        refine AllReadyH.cons rfl (fun K hK => ?_) AllReadyH.nil
        go_simp
        go_wp2_with (go_at_call 29; refine (HLA.out _ HDV.out).mono ?_; rintro e9 w8 ⟨gF, cF, gT, cT, rfl, hd8, hb8⟩)
        have H8 := hidQ (HDV.out.trans (hb8.mono HDV.out.size))
        have HD8 := hidQ hd8
        clear hb8 hd8
        refine hK.out _ _ (HSV.out _ H8.out) (fun hHeld => ?_)
        clear hK K
        try simp only [Act.put]
        clear hHeld
        refine wpAnyH_ready (rs := [3]) (by kernel_rfl) (by simp) ?_
        refine AllReadyH.cons rfl (fun K hK => ?_) AllReadyH.nil
        go_simp
        go_wp2_with (go_at_call 30; refine (HMO.out _ _ _ _ _ HD8.out).mono ?_; rintro e9 w9 ⟨a9, c9, rfl, ho9, hb9⟩)
        have H9 := hidQ (H8.out.trans (hb9.mono H8.out.size))
        have s8 := H8.out.size
        have HO9 := hidQ (own_crf (B' := w.heap.size + 3) ho9 (by omega))
        clear hb9 ho9
        refine hK.out _ _ (HSV.out _ H9.out) (fun hHeld => ?_)
        clear hK K hHeld
        try simp only [Act.put]
        have q2 := (H9.out.block _ (by omega)).trans HK2.out
        have q3 := (H9.out.block _ (by omega)).trans HK3.out
        have c0 : w9.cell? ⟨w.heap.size + 1, 0, none⟩ = some (.slice ai (D i).length ci) := block_cell q2 rfl
        have c1 : w9.cell? ⟨w.heap.size + 1, 1, none⟩ = some (.int .i64 (lo i)) := block_cell q2 rfl
        have z0 : w9.frozen? ⟨w.heap.size + 1, 0, none⟩ = false := frozM q2
        have z1 : w9.frozen? ⟨w.heap.size + 1, 1, none⟩ = false := frozM q2
        have l2 : w.heap.size + 1 < w9.heap.size := (Array.getElem?_eq_some_iff.1 q2).1
        obtain ⟨Z, hZ⟩ : ∃ Z, Z = (w9.setCell ⟨w.heap.size + 1, 0, none⟩ (.slice a9 (D (i + 1)).length c9)).setCell ⟨w.heap.size + 1, 1, none⟩ (.int .i64 (lo (i + 1))) := ⟨_, rfl⟩
        have hgZ : w9.grownBy Z (some (w.heap.size + 1)) := by rw [hZ]; exact grown_twoM (set_grown _ _ _ _) (set_grown _ _ _ _)
        have hZ2 : Z.heap[w.heap.size + 1]? = some (.cells #[.slice a9 (D (i + 1)).length c9, .int .i64 (lo (i + 1))] 24 (0, 0)) := by rw [hZ, set_block (set_block q2)]; rfl
        have hZ3 : Z.heap[w.heap.size + 1 + 1]? = some (.cells #[.int .i64 0] 29 (0, 0)) := (hgZ.block _ (Array.getElem?_eq_some_iff.1 q3).1 (fun e => by have := Option.some.inj e; omega)).trans q3
        have s9 := H9.out.size
        have sZ := hgZ.size
        have HRZ : Hid (RoAt w Z a9 c9 (D (i + 1)) (lo (i + 1))) := ⟨(HBX.out.trans (H9.out.mono (by omega))).grown hgZ (by omega) (fun q hq => by have := Option.some.inj hq; omega), by have := HXS.out; omega, hZ2, hZ3, HO9.out.put hgZ (by omega)⟩
        have HZE := hidQ hZ
        clear hZ hZ2 hZ3 q2 q3
        have HSZ := hidQ (show (fun X : World => X.cell? ⟨W1.heap.size, 0, none⟩ = some (.int .i64 mk) ∧ X.cell? ⟨W1.heap.size, 1, none⟩ = some (.int .i64 mx) ∧ X.cell? ⟨W1.heap.size, 2, none⟩ = some (.int .i64 my) ∧ X.cell? ⟨W1.heap.size, 3, none⟩ = some (.int .i64 mu) ∧ X.cell? ⟨W1.heap.size, 4, none⟩ = some (.bool mub) ∧ X.cell? ⟨W1.heap.size, 5, none⟩ = some (.int .i64 mv) ∧ X.cell? ⟨W1.heap.size, 6, none⟩ = some (.bool mvb) ∧ X.cell? ⟨W1.heap.size, 7, none⟩ = some (.bool mo)) Z from by
          have k0 := (hgZ.block W1.heap.size (by omega) (fun e => by have := Option.some.inj e; omega)).trans ((H9.out.block _ (by omega)).trans HK1.out)
          exact ⟨block_cell k0 rfl, block_cell k0 rfl, block_cell k0 rfl, block_cell k0 rfl, block_cell k0 rfl, block_cell k0 rfl, block_cell k0 rfl, block_cell k0 rfl⟩)
        clear hgZ
        refine wpAnyH_ready (rs := [4]) (by kernel_rfl) (by simp) ?_
        refine AllReadyH.cons rfl (fun K hK => ?_) AllReadyH.nil
        go_simp
        rw [← HZE.out]
        clear HZE
        refine hK.out _ _ HSZ.out (fun hHeld => ?_)
        clear hK K hHeld HSZ c0 c1 z0 z1
        try simp only [Act.put]
        refine wpAnyH_done (by kernel_rfl) ?_ _
        go_wp2
        go_roundw
        all_goals first
          | (simp only [intOf]; omega)
          | exact ⟨i + 1, a9, c9, by omega, by go_num, by go_num, HRZ⟩
    · obtain rfl : i = n := by omega
      have q2 := hro.out.box
      have q3 := hro.out.err
      have c0 : W1.cell? ⟨w.heap.size + 1, 0, none⟩ = some (.slice ai (D i).length ci) := block_cell q2 rfl
      have c1 : W1.cell? ⟨w.heap.size + 1, 1, none⟩ = some (.int .i64 (lo i)) := block_cell q2 rfl
      have z0 : W1.frozen? ⟨w.heap.size + 1, 0, none⟩ = false := frozM q2
      have z1 : W1.frozen? ⟨w.heap.size + 1, 1, none⟩ = false := frozM q2
      have c3 : W1.cell? ⟨w.heap.size + 1 + 1, 0, none⟩ = some (.int .i64 0) := block_cell q3 rfl
      have z3 : W1.frozen? ⟨w.heap.size + 1 + 1, 0, none⟩ = false := frozM q3
      have l2 : w.heap.size + 1 < W1.heap.size := (Array.getElem?_eq_some_iff.1 q2).1
      have l3 : w.heap.size + 1 + 1 < W1.heap.size := (Array.getElem?_eq_some_iff.1 q3).1
      have HRO := hidQ hro.out
      clear hro q2 q3
      go_wp2
      have gA : W1.grownBy ((W1.setCell ⟨w.heap.size + 1, 0, none⟩ (.slice ai (D i).length ci)).setCell ⟨w.heap.size + 1, 1, none⟩ (.int .i64 (lo i))) (some (w.heap.size + 1)) := grown_twoM (set_grown _ _ _ _) (set_grown _ _ _ _)
      have gB := set_grown ((W1.setCell ⟨w.heap.size + 1, 0, none⟩ (.slice ai (D i).length ci)).setCell ⟨w.heap.size + 1, 1, none⟩ (.int .i64 (lo i))) (w.heap.size + 1 + 1) 0 (.int .i64 0)
      have kA : ((W1.setCell ⟨w.heap.size + 1, 0, none⟩ (.slice ai (D i).length ci)).setCell ⟨w.heap.size + 1, 1, none⟩ (.int .i64 (lo i))).heap[w.heap.size + 1]? = some (.cells #[.slice ai (D i).length ci, .int .i64 (lo i)] 24 (0, 0)) := by rw [set_block (set_block HRO.out.box)]; rfl
      have kB := (gA.block _ (Array.getElem?_eq_some_iff.1 HRO.out.err).1 (fun e => by have := Option.some.inj e; omega)).trans HRO.out.err
      have kC := (gB.block _ (Array.getElem?_eq_some_iff.1 kA).1 (fun e => by have := Option.some.inj e; omega)).trans kA
      have kD := set_block (i := 0) (u := .int .i64 0) kB
      have sA := gA.size
      have sB := gB.size
      have hb1 := (HRO.out.bel.grown gA (by omega) (fun q hq => by have := Option.some.inj hq; omega)).grown gB (by omega) (fun q hq => by have := Option.some.inj hq; omega)
      have hc1 := (HRO.out.crf.put gA (by omega)).put gB (by omega)
      rw [HER.out.2 hil]
      exact row_done w.heap.size _ ai (D i).length ci (lo i) i _ rfl rfl rfl kC kD ⟨ai, ci, rfl, hc1.crs, hb1⟩
end Go.Proofs.Ytagaajlbkfkaiaa
