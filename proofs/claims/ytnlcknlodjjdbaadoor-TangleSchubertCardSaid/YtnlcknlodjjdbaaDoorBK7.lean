/- The walk of bracket.sums.add. -/
import Derived.Test.YtnlcknlodjjdbaaDoorBK5P
import Derived.Test.YtnlcknlodjjdbaaDoorTkh
import Derived.Test.YtnlcknlodjjdbaaDoorBK3P
namespace Go.Proofs.YtnlcknlodjjdbaaDoor.Poly
open Go.RowKit Go.Maps

theorem arF {g a0 a1 a2 a3 : Nat} {X : World} (h : X.heap[g + 1]? = some (.cells #[.int .i64 (a0 : Nat), .int .i64 (a1 : Nat), .int .i64 (a2 : Nat), .int .i64 (a3 : Nat)] 75 (0, 0))) : X.cell? ⟨g + 1, 0, none⟩ = some (.int .i64 (a0 : Nat)) ∧ X.cell? ⟨g + 1, 1, none⟩ = some (.int .i64 (a1 : Nat)) ∧ X.cell? ⟨g + 1, 2, none⟩ = some (.int .i64 (a2 : Nat)) ∧ X.cell? ⟨g + 1, 3, none⟩ = some (.int .i64 (a3 : Nat)) := ⟨block_cell h rfl, block_cell h rfl, block_cell h rfl, block_cell h rfl⟩
/-- What so many rings are worth, at most two of them. -/
def rgL (m : Nat) : List (Int × Int) := if m = 0 then [(0, 1)] else if m = 1 then [(-2, -1), (2, -1)] else [(-4, 1), (0, 2), (4, 1)]
theorem rgL_prod {m : Nat} (h : m ≤ 2) (f : Int → Int) : prodL (rgL m) f = dlN m f := by
  match m, h with
  | 0, _ => funext y; show 1 * f (y - 0) + 0 = f y; rw [Int.sub_zero]; omega
  | 1, _ => exact ring_dl f
  | 2, _ =>
    funext y
    show 1 * f (y - -4) + (2 * f (y - 0) + (1 * f (y - 4) + 0)) = - (- f (y + 2 + 2) - f (y + 2 - 2)) - (- f (y - 2 + 2) - f (y - 2 - 2))
    rw [show y - -4 = y + 4 by omega, show y + 2 + 2 = y + 4 by omega, show y + 2 - 2 = y by omega, show y - 2 + 2 = y by omega, show y - 2 - 2 = y - 4 by omega, Int.sub_zero]
    omega
theorem prodL_oneA (l : List (Int × Int)) (y : Int) : prodL l oneA y = coefL l y := by
  induction l with
  | nil => rfl
  | cons t l ih =>
    show t.2 * oneA (y - t.1) + prodL l oneA y = (if t.1 = y then t.2 else 0) + coefL l y
    rw [ih]
    unfold oneA
    by_cases e : t.1 = y
    · rw [if_pos e, if_pos (by omega)]; omega
    · rw [if_neg e, if_neg (by omega)]; omega
theorem rgL_coef {m : Nat} (h : m ≤ 2) (y : Int) : dlN m oneA y = coefL (rgL m) y := by
  rw [← rgL_prod h, prodL_oneA]
theorem rgL_bd {m : Nat} (h : m ≤ 2) (y : Int) : (dlN m oneA y).natAbs ≤ 2 := by
  rw [rgL_coef h]
  match m, h with
  | 0, _ => show (coefL [(0, 1)] y).natAbs ≤ 2; rw [coefL_one]; split <;> decide
  | 1, _ => exact Nat.le_trans (two_ring y) (by decide)
  | 2, _ =>
    show ((if (-4 : Int) = y then (1 : Int) else 0) + ((if (0 : Int) = y then (2 : Int) else 0) + ((if (4 : Int) = y then (1 : Int) else 0) + 0))).natAbs ≤ 2
    split <;> split <;> split <;> omega
theorem setRow_other {W : World} {g g' : Nat} {cs : Array Value} (h : g ≠ g') : (W.setRow g' cs).heap[g]? = W.heap[g]? := by
  simp only [World.setRow, Array.getElem?_modify]
  rw [if_neg (Ne.symm h)]
theorem grown_but {w W W' : World} {b : Nat} (h : Below w.heap.size w W) (hg : W.grownBy W' (some b)) (_hb : b < w.heap.size) : w.grownBy W' (some b) :=
  ⟨hg.os.trans h.os, hg.tape.trans h.tape, hg.output.trans h.output, Nat.le_trans h.size hg.size, fun i hi hne => (hg.block i (Nat.lt_of_lt_of_le hi h.size) hne).trans (h.block i hi)⟩
theorem wrap_small {m : Nat} (h : m ≤ 100) : IntKind.i64.wrap (m : Int) = (m : Int) := IntWalk.i64_in _ (by omega)
theorem ex_row {P : Program} {ev : Operand → Value} {o : Oper} {w : World} (ty : TypeId) (x : Operand) (ho : o.op = .load ty x) (g : Nat) (hx : ev x = .pointer (some ⟨g, 0, none⟩)) (t : TypeId) (cs : Array Value) (fr : Nat × Nat) (d : TypeDesc) (hg : w.heap[g]? = some (.cells cs t fr))
    (hu : P.underlying ty = some d) (hd : (match d with | .struct _ | .array _ _ => true | _ => false) = true) (hi : (P.info? ty).map (·.size) = some cs.size) : (execOp ev o).run P w = .ok (.value (.agg cs)) w := by
  unfold execOp
  simp only [ho, hx, Instr.loadAt, Instr.sureAddr, Sem.run_bind, Sem.run_pure, Result.andThen_ok, run_loadVar_row w g t ty cs fr d hg hu hd hi]
set_option maxHeartbeats 16000000 in
set_option maxRecDepth 100000 in
theorem addA (L b n K M J Hf : Nat) (V : List Nat → Int → Int) (D : DataW Unit) (T : List Nat) (f : Int → Int) (c a0 a1 a2 a3 : Nat) (w : World) (hT : GoodK T) (h0 : a0 < 26) (h1 : a1 < 26) (h2 : a2 < 26) (h3 : a3 < 26) (hR : RingAt w) (hL : L ≤ w.heap.size) (hbL : b < L) (hn : n < 100000000)
    (hK : J + 4 ≤ K) (hK2 : K ≤ 900) (hM : M ≤ 10000) (hS : SumD w L w.heap.size b n K (2 * K + 1) V D) (hf : WkV w w.heap.size (.map (some c)) M J f) (hH : (2 * J + 1) * (Hf * 2) ≤ 4000000000000000000) (hfb : ∀ y, (f y).natAbs ≤ Hf) (hVb : ∀ y, (V (t4 T a0 a1 a2 a3) y).natAbs ≤ 1000000000000000000) (hdb : ∀ y, (dlN (c4 T a0 a1 a2 a3) f y).natAbs ≤ 1000000000000000000) :
    Calls Tryd.prog 48 #[.map (some b), tiV T, .map (some c), .agg #[.int .i64 (a0 : Nat), .int .i64 (a1 : Nat), .int .i64 (a2 : Nat), .int .i64 (a3 : Nat)], .int .i64 0] w fun e w' => e = .returned (.tuple #[]) ∧ ∃ D', SumD w' L w'.heap.size b (n + 1) K (2 * K + 1) (fun U => if U = t4 T a0 a1 a2 a3 then (fun y => V U y + dlN (c4 T a0 a1 a2 a3) f y) else V U) D' ∧ w.grownBy w' (some b) ∧ (∀ l, keyOf Tryd.prog 83 (tiV (t4 T a0 a1 a2 a3)) = some l → Maps.has D' l = true) ∧ (∀ kl, Maps.has D kl = true → Maps.has D' kl = true) := by
  obtain ⟨T1, hT1⟩ : ∃ X, tieT T a0 a1 = X := ⟨_, rfl⟩
  obtain ⟨T2, hT2⟩ : ∃ X, tieT T1 a2 a3 = X := ⟨_, rfl⟩
  obtain ⟨n1, hn1⟩ : ∃ X, tieN T a0 a1 = X := ⟨_, rfl⟩
  obtain ⟨n2, hn2⟩ : ∃ X, tieN T1 a2 a3 = X := ⟨_, rfl⟩
  have e4 : t4 T a0 a1 a2 a3 = T2 := by unfold t4; rw [hT1, hT2]
  have ec : c4 T a0 a1 a2 a3 = n1 + n2 := by unfold c4; rw [hn1, hT1, hn2]
  have hc2 : n1 + n2 ≤ 2 := by rw [← ec]; exact c4_le _ _ _ _ _
  obtain ⟨m, hm⟩ : ∃ X, n1 + n2 = X := ⟨_, rfl⟩
  rw [e4] at hVb ⊢
  rw [ec, hm] at hdb ⊢
  rw [hm] at hc2
  have HMM := hid_mkP hm
  clear hm
  have g1 : GoodK T1 := by rw [← hT1]; exact hT.tie _ _
  have g2 : GoodK T2 := by rw [← hT2]; exact g1.tie _ _
  have HC1 : Hid (∀ W, Calls Tryd.prog 59 #[.agg (tiA T), .int .i64 (a0 : Nat), .int .i64 (a1 : Nat)] W fun e w' => e = .returned (.tuple #[.agg (tiA T1), .int .i64 (n1 : Nat)]) ∧ Below W.heap.size W w') := fun W => by rw [← hT1, ← hn1]; exact tied_any T a0 a1 W hT (by omega) (by omega)
  have HC2 : Hid (∀ W, Calls Tryd.prog 59 #[.agg (tiA T1), .int .i64 (a2 : Nat), .int .i64 (a3 : Nat)] W fun e w' => e = .returned (.tuple #[.agg (tiA T2), .int .i64 (n2 : Nat)]) ∧ Below W.heap.size W w') := fun W => by rw [← hT2, ← hn2]; exact tied_any T1 a2 a3 W g1 (by omega) (by omega)
  clear hT1 hT2 hn1 hn2 e4 ec
  have HT := hid_mkP hT
  have G1 := hid_mkP g1
  have G2 := hid_mkP g2
  have HR := hid_mkP hR
  have HS := hid_mkP hS
  have HF := hid_mkP hf
  have HFB := hid_mkP hfb
  have HVB := hid_mkP hVb
  have HDB := hid_mkP hdb
  have HH := hid_mkP hH
  have hbw : b < w.heap.size := by omega
  clear hT g1 g2 hR hS hf hfb hVb hdb hH
  obtain ⟨V0, hV0⟩ : ∃ X, (w.alloc (.cells (tiA T) 83)).alloc (.cells #[.int .i64 (a0 : Nat), .int .i64 (a1 : Nat), .int .i64 (a2 : Nat), .int .i64 (a3 : Nat)] 75) = X := ⟨_, rfl⟩
  have B0 : Hid (Below w.heap.size w V0) := (by rw [← hV0]; exact ((Below.refl _ _).alloc (Nat.le_refl _) _).alloc (by simp) _ : Below w.heap.size w V0)
  have T0 : Hid (TiAt V0 w.heap.size T) := (by
    rw [← hV0]; unfold TiAt
    rw [heap_alloc_old _ _ (by simp), heap_alloc_new] : TiAt V0 w.heap.size T)
  have A0 : Hid (V0.heap[w.heap.size + 1]? = some (.cells #[.int .i64 (a0 : Nat), .int .i64 (a1 : Nat), .int .i64 (a2 : Nat), .int .i64 (a3 : Nat)] 75 (0, 0))) := (by
    rw [← hV0]
    have := heap_alloc_new (w.alloc (.cells (tiA T) 83)) (.cells #[.int .i64 (a0 : Nat), .int .i64 (a1 : Nat), .int .i64 (a2 : Nat), .int .i64 (a3 : Nat)] 75)
    rw [show (w.alloc (.cells (tiA T) 83)).heap.size = w.heap.size + 1 by simp] at this
    exact this : V0.heap[w.heap.size + 1]? = _)
  have s0 : w.heap.size + 1 < V0.heap.size := (Array.getElem?_eq_some_iff.1 A0.out).1
  have HV0 := hid_mkP hV0
  clear hV0
  have HQ0 : Hid (∀ W, Below V0.heap.size V0 W → (fun X : World => X.cell? ⟨w.heap.size + 1, 0, none⟩ = some (.int .i64 (a0 : Nat)) ∧ X.cell? ⟨w.heap.size + 1, 1, none⟩ = some (.int .i64 (a1 : Nat)) ∧ X.cell? ⟨w.heap.size + 1, 2, none⟩ = some (.int .i64 (a2 : Nat)) ∧ X.cell? ⟨w.heap.size + 1, 3, none⟩ = some (.int .i64 (a3 : Nat))) W) := fun W hW => arF ((hW.block _ s0).trans A0.out)
  have HD0 : Hid (Below V0.heap.size V0 V0.drew) := (Below.refl _ _).drew
  unfold tiV
  go_enter Tryd.func48, Tryd.ntmps48
  go_upto_region 1 with (fail)
  rw [HV0.out]
  refine rhd HQ0 HD0.out (fun hHeld => ?_)
  have x1 : IntKind.i64.wrap 1 = 1 := by decide
  have x2 : IntKind.i64.wrap 2 = 2 := by decide
  refine tq 14 1 (h := ?_)
  simp only [List.setIfInBounds_toArray, List.set_cons_succ, List.set_cons_zero]
  refine tq 15 2 (h := ?_)
  simp only [List.setIfInBounds_toArray, List.set_cons_succ, List.set_cons_zero]
  refine tq 16 3 (h := ?_)
  simp only [List.setIfInBounds_toArray, List.set_cons_succ, List.set_cons_zero]
  refine tq 17 4 (h := ?_)
  simp only [List.setIfInBounds_toArray, List.set_cons_succ, List.set_cons_zero]
  refine tq 18 5 (h := ?_)
  simp only [List.setIfInBounds_toArray, List.set_cons_succ, List.set_cons_zero]
  refine tq 19 6 (h := ?_)
  simp only [List.setIfInBounds_toArray, List.set_cons_succ, List.set_cons_zero]
  refine tq 20 7 (h := ?_)
  simp only [List.setIfInBounds_toArray, List.set_cons_succ, List.set_cons_zero]
  clear hHeld x1 x2
  refine rd1 0 ?_
  intro K0 hK0
  refine wp_load_row 83 _ rfl w.heap.size rfl 83 _ (0, 0) _ (T0.out.on HD0.out (by omega)) Tryd.underlying83 rfl (infoBT HT.out) ?_
  refine hK0.out _ _ (HQ0.out _ HD0.out) (fun _ => ?_)
  clear hK0 K0
  try simp only [Act.put]
  try simp only [List.getElem_toArray]
  try simp only [List.getElem_cons_succ]
  try simp only [List.getElem_cons_zero]
  try simp only [List.setIfInBounds_toArray, List.set_cons_succ, List.set_cons_zero]
  refine rd1 8 ?_
  intro K0 hK0
  go_simp
  go_wp2_with (go_at_call 59; refine (HC1.out _).mono ?_; rintro e9 w1 ⟨rfl, hb1⟩)
  have HB1 := hid_mkP (HD0.out.trans (hb1.mono HD0.out.size))
  clear hb1
  refine hK0.out _ _ (HQ0.out _ HB1.out) (fun hHeld => ?_)
  clear hK0 K0
  try simp only [Act.put]
  try simp only [List.getElem_toArray]
  try simp only [List.getElem_cons_succ]
  try simp only [List.getElem_cons_zero]
  try simp only [List.setIfInBounds_toArray, List.set_cons_succ, List.set_cons_zero]
  refine tq 12 9 (h := ?_)
  simp only [List.setIfInBounds_toArray, List.set_cons_succ, List.set_cons_zero]
  refine tq 22 10 (h := ?_)
  simp only [List.setIfInBounds_toArray, List.set_cons_succ, List.set_cons_zero]
  refine tq 23 11 (h := ?_)
  simp only [List.setIfInBounds_toArray, List.set_cons_succ, List.set_cons_zero]
  clear hHeld
  have TI1 : Hid (TiAt w1 w.heap.size T) := T0.out.on HB1.out (by omega)
  have hX1 : TiAt (w1.setRow w.heap.size (tiA T1)) w.heap.size T1 := TI1.out.row
  have hA1 : (w1.setRow w.heap.size (tiA T1)).heap[w.heap.size + 1]? = _ := (setRow_other (by omega)).trans ((HB1.out.block _ s0).trans A0.out)
  have hB1 : Below w.heap.size w (w1.setRow w.heap.size (tiA T1)) := setRow_below (B0.out.trans (HB1.out.mono B0.out.size)) (Nat.le_refl _)
  refine rd1 12 ?_
  intro K0 hK0
  refine wp_store_row 83 _ _ rfl w.heap.size (tiA T1) rfl rfl 83 _ TI1.out (infoBT G1.out) (by rw [tiA_size HT.out, tiA_size G1.out]) (tiA_all _) ?_
  refine hK0.out _ _ (arF hA1) (fun hHeld => ?_)
  clear hK0 K0
  generalize w1.setRow w.heap.size (tiA T1) = X1 at *
  try simp only [Act.put]
  try simp only [List.getElem_toArray]
  try simp only [List.getElem_cons_succ]
  try simp only [List.getElem_cons_zero]
  try simp only [List.setIfInBounds_toArray, List.set_cons_succ, List.set_cons_zero]
  refine tq 10 13 (h := ?_)
  simp only [List.setIfInBounds_toArray, List.set_cons_succ, List.set_cons_zero]
  refine wpAnyH_done (by kernel_rfl) ?_ _
  clear hHeld
  have HX1 := hid_mkP hX1
  have HA1 := hid_mkP hA1
  have HBX1 := hid_mkP hB1
  have s1 : w.heap.size + 1 < X1.heap.size := (Array.getElem?_eq_some_iff.1 hA1).1
  clear hX1 hA1 hB1 TI1 HB1 HQ0 HD0 T0 A0 B0 HV0 s0
  have HQ1 : Hid (∀ W, Below X1.heap.size X1 W → (fun X : World => X.cell? ⟨w.heap.size + 1, 0, none⟩ = some (.int .i64 (a0 : Nat)) ∧ X.cell? ⟨w.heap.size + 1, 1, none⟩ = some (.int .i64 (a1 : Nat)) ∧ X.cell? ⟨w.heap.size + 1, 2, none⟩ = some (.int .i64 (a2 : Nat)) ∧ X.cell? ⟨w.heap.size + 1, 3, none⟩ = some (.int .i64 (a3 : Nat))) W) := fun W hW => arF ((hW.block _ s1).trans HA1.out)
  have HD1 : Hid (Below X1.heap.size X1 X1.drew) := (Below.refl _ _).drew
  go_upto_region 2 with (fail)
  refine rhd HQ1 HD1.out (fun hHeld => ?_)
  have x2 : IntKind.i64.wrap 2 = 2 := by decide
  have x3 : IntKind.i64.wrap 3 = 3 := by decide
  have x4 : IntKind.i64.wrap 4 = 4 := by decide
  have x0 : IntKind.i64.wrap 0 = 0 := by decide
  have m3 : Int.tmod 3 4 = 3 := by decide
  have m4 : Int.tmod 4 4 = 0 := by decide
  refine tq 26 1 (h := ?_)
  simp only [List.setIfInBounds_toArray, List.set_cons_succ, List.set_cons_zero]
  refine tq 27 2 (h := ?_)
  simp only [List.setIfInBounds_toArray, List.set_cons_succ, List.set_cons_zero]
  refine tq 28 3 (h := ?_)
  simp only [List.setIfInBounds_toArray, List.set_cons_succ, List.set_cons_zero]
  refine tq 29 4 (h := ?_)
  simp only [List.setIfInBounds_toArray, List.set_cons_succ, List.set_cons_zero]
  refine tq 30 5 (h := ?_)
  simp only [List.setIfInBounds_toArray, List.set_cons_succ, List.set_cons_zero]
  refine tq 31 6 (h := ?_)
  simp only [List.setIfInBounds_toArray, List.set_cons_succ, List.set_cons_zero]
  refine tq 32 7 (h := ?_)
  simp only [List.setIfInBounds_toArray, List.set_cons_succ, List.set_cons_zero]
  refine tq 33 8 (h := ?_)
  simp only [List.setIfInBounds_toArray, List.set_cons_succ, List.set_cons_zero]
  refine tq 34 9 (h := ?_)
  simp only [List.setIfInBounds_toArray, List.set_cons_succ, List.set_cons_zero]
  clear hHeld x2 x3 x4 x0 m3 m4
  refine rd1 0 ?_
  intro K0 hK0
  refine wp_load_row 83 _ rfl w.heap.size rfl 83 _ (0, 0) _ (HX1.out.on HD1.out (by omega)) Tryd.underlying83 rfl (infoBT G1.out) ?_
  refine hK0.out _ _ (HQ1.out _ HD1.out) (fun _ => ?_)
  clear hK0 K0
  try simp only [Act.put]
  try simp only [List.getElem_toArray]
  try simp only [List.getElem_cons_succ]
  try simp only [List.getElem_cons_zero]
  try simp only [List.setIfInBounds_toArray, List.set_cons_succ, List.set_cons_zero]
  refine rd1 10 ?_
  intro K0 hK0
  go_simp
  go_wp2_with (go_at_call 59; refine (HC2.out _).mono ?_; rintro e9 w2 ⟨rfl, hb2⟩)
  have HB2 := hid_mkP (HD1.out.trans (hb2.mono HD1.out.size))
  clear hb2
  refine hK0.out _ _ (HQ1.out _ HB2.out) (fun hHeld => ?_)
  clear hK0 K0
  try simp only [Act.put]
  try simp only [List.getElem_toArray]
  try simp only [List.getElem_cons_succ]
  try simp only [List.getElem_cons_zero]
  try simp only [List.setIfInBounds_toArray, List.set_cons_succ, List.set_cons_zero]
  refine tq 24 11 (h := ?_)
  simp only [List.setIfInBounds_toArray, List.set_cons_succ, List.set_cons_zero]
  refine tq 36 12 (h := ?_)
  simp only [List.setIfInBounds_toArray, List.set_cons_succ, List.set_cons_zero]
  refine tq 37 13 (h := ?_)
  simp only [List.setIfInBounds_toArray, List.set_cons_succ, List.set_cons_zero]
  clear hHeld
  have TI2 : Hid (TiAt w2 w.heap.size T1) := HX1.out.on HB2.out (by omega)
  have hX2 : TiAt (w2.setRow w.heap.size (tiA T2)) w.heap.size T2 := TI2.out.row
  have hA2 : (w2.setRow w.heap.size (tiA T2)).heap[w.heap.size + 1]? = _ := (setRow_other (by omega)).trans ((HB2.out.block _ s1).trans HA1.out)
  have hB2 : Below w.heap.size w (w2.setRow w.heap.size (tiA T2)) := setRow_below (HBX1.out.trans (HB2.out.mono HBX1.out.size)) (Nat.le_refl _)
  refine rd1 14 ?_
  intro K0 hK0
  refine wp_store_row 83 _ _ rfl w.heap.size (tiA T2) rfl rfl 83 _ TI2.out (infoBT G2.out) (by rw [tiA_size G1.out, tiA_size G2.out]) (tiA_all _) ?_
  refine hK0.out _ _ (arF hA2) (fun hHeld => ?_)
  clear hK0 K0
  generalize w2.setRow w.heap.size (tiA T2) = X2 at *
  try simp only [Act.put]
  try simp only [List.getElem_toArray]
  try simp only [List.getElem_cons_succ]
  try simp only [List.getElem_cons_zero]
  try simp only [List.setIfInBounds_toArray, List.set_cons_succ, List.set_cons_zero]
  refine tq 11 15 (h := ?_)
  simp only [List.setIfInBounds_toArray, List.set_cons_succ, List.set_cons_zero]
  refine wpAnyH_done (by kernel_rfl) ?_ _
  have HX2 := hid_mkP hX2
  have HBX2 := hid_mkP hB2
  have s2 : w.heap.size + 1 < X2.heap.size := (Array.getElem?_eq_some_iff.1 hA2).1
  clear hHeld hX2 hA2 hB2 TI2 HB2 HQ1 HD1 HX1 HA1 HBX1 s1
  have hS2 := HS.out.on HBX2.out hbw
  obtain ⟨v, hv1, hv2⟩ := hS2.look2 G2.out hbw
  have HV1 := hid_mkP hv1
  have HQ2 : Hid (∀ W, Below X2.heap.size X2 W → (fun X : World => TiAt X w.heap.size T2) W) := fun W hW => HX2.out.on hW (by omega)
  have HLK : Hid (∀ W, Below X2.heap.size X2 W → (Instr.lookup 86 (.map (some b)) (.agg (tiA T2)) false).run Tryd.prog W = .ok v W) := fun W hW => hv2 W (hW.mono (by omega))
  have HS2 := hid_mkP hS2
  have HD2 : Hid (Below X2.heap.size X2 X2.drew) := (Below.refl _ _).drew
  clear hv1 hv2 hS2
  go_upto_region 3 with (fail)
  refine rhd HQ2 HD2.out (fun hHeld => ?_)
  have x5 : IntKind.i64.wrap ((n1 : Int) + (n2 : Int)) = (m : Int) := by rw [show ((n1 : Int) + (n2 : Int)) = (m : Int) by have := HMM.out; omega]; exact wrap_small (by omega)
  refine tq 38 0 (h := ?_)
  simp only [List.setIfInBounds_toArray, List.set_cons_succ, List.set_cons_zero]
  refine tq 39 1 (hy := fun W hW => ex_row 83 _ rfl w.heap.size rfl 83 _ (0, 0) _ hW Tryd.underlying83 rfl (infoBT G2.out)) (h := ?_)
  simp only [List.setIfInBounds_toArray, List.set_cons_succ, List.set_cons_zero]
  refine tq 40 2 (h := ?_)
  simp only [List.setIfInBounds_toArray, List.set_cons_succ, List.set_cons_zero]
  refine tq 41 3 (hy := fun W hW => ex_row 83 _ rfl w.heap.size rfl 83 _ (0, 0) _ hW Tryd.underlying83 rfl (infoBT G2.out)) (h := ?_)
  simp only [List.setIfInBounds_toArray, List.set_cons_succ, List.set_cons_zero]
  refine tq 43 5 (h := ?_)
  simp only [List.setIfInBounds_toArray, List.set_cons_succ, List.set_cons_zero]
  refine tq 44 6 (h := ?_)
  simp only [List.setIfInBounds_toArray, List.set_cons_succ, List.set_cons_zero]
  refine tq 45 7 (h := ?_)
  simp only [List.setIfInBounds_toArray, List.set_cons_succ, List.set_cons_zero]
  refine tq 46 8 (h := ?_)
  simp only [List.setIfInBounds_toArray, List.set_cons_succ, List.set_cons_zero]
  clear hHeld x5
  have HRX : Hid (RingAt X2.drew) := HR.out.any (HBX2.out.trans (HD2.out.mono HBX2.out.size))
  have HG := hid_mkP (rings_any m X2.drew (by omega) HRX.out)
  refine rd2 4 9 ?_ ?_
  · intro K0 hK0
    have hlk := HLK.out _ HD2.out
    go_simp
    refine hK0.out _ _ (HQ2.out _ HD2.out) (fun _ => ?_)
    clear hK0 K0 hlk
    try simp only [Act.put]
    try simp only [List.getElem_toArray]
    try simp only [List.getElem_cons_succ]
    try simp only [List.getElem_cons_zero]
    try simp only [List.setIfInBounds_toArray, List.set_cons_succ, List.set_cons_zero]
    refine rd1 9 ?_
    intro K0 hK0
    go_simp
    go_wp2_with (go_at_call 34; refine HG.out.mono ?_; rintro e9 w3 ⟨c3, rfl, hc3, hw3, hb3⟩)
    have HB3 := hid_mkP (HD2.out.trans (hb3.mono HD2.out.size))
    have HW3 := hid_mkP hw3
    clear hb3 hw3
    refine hK0.out _ _ (HQ2.out _ HB3.out) (fun _ => ?_)
    clear hK0 K0
    try simp only [Act.put]
    try simp only [List.getElem_toArray]
    try simp only [List.getElem_cons_succ]
    try simp only [List.getElem_cons_zero]
    try simp only [List.setIfInBounds_toArray, List.set_cons_succ, List.set_cons_zero]
    have B3 : Hid (Below w.heap.size w w3) := HBX2.out.trans (HB3.out.mono HBX2.out.size)
    have HTM := hid_mkP (times_wkG (.map (some c)) (.map (some c3)) M (2 * (2 * m) + 1) J (2 * m) Hf 2 (rgL m) f (dlN m oneA) w3 (by omega) (by omega) (by omega) HH.out HFB.out (rgL_bd hc2) ((HF.out.on B3.out).mono B3.out.size (Nat.le_refl _) (Nat.le_refl _)) HW3.out (by simp) (rgL_coef hc2))
    refine rd1 10 ?_
    intro K0 hK0
    go_simp
    go_wp2_with (go_at_call 20; refine HTM.out.mono ?_; rintro e9 w4 ⟨rfl, hw4, hb4⟩)
    have HB4 := hid_mkP (HB3.out.trans (hb4.mono HB3.out.size))
    rw [rgL_prod hc2] at hw4
    have HW4 := hid_mkP (hw4.mono (Nat.le_refl _) (show 2 * (J + 2 * m) + 1 ≤ 2 * K + 1 by omega) (show J + 2 * m ≤ K by omega))
    clear hb4 hw4
    refine hK0.out _ _ (HQ2.out _ HB4.out) (fun _ => ?_)
    clear hK0 K0
    try simp only [Act.put]
    try simp only [List.getElem_toArray]
    try simp only [List.getElem_cons_succ]
    try simp only [List.getElem_cons_zero]
    try simp only [List.setIfInBounds_toArray, List.set_cons_succ, List.set_cons_zero]
    have B4 : Hid (Below w.heap.size w w4) := HBX2.out.trans (HB4.out.mono HBX2.out.size)
    have hwv := (HV1.out.on (HB4.out.mono (by omega : w.heap.size ≤ X2.heap.size))).mono B4.out.size (Nat.le_refl _) (Nat.le_refl _)
    have HPL := hid_mkP (plus_wkG v (.map (some w3.heap.size)) (2 * K + 1) (2 * K + 1) K (V T2) (dlN m f) w4 (by omega) (by omega) hK2 HVB.out HDB.out hwv HW4.out (by simp))
    clear hwv
    refine rd1 11 ?_
    intro K0 hK0
    go_simp
    go_wp2_with (go_at_call 49; refine HPL.out.mono ?_; rintro e9 w5 ⟨rfl, hw5, hb5⟩)
    have HB5 := hid_mkP (HB4.out.trans (hb5.mono HB4.out.size))
    have HW5 := hid_mkP hw5
    clear hb5 hw5 HPL
    refine hK0.out _ _ (HQ2.out _ HB5.out) (fun _ => ?_)
    clear hK0 K0
    try simp only [Act.put]
    try simp only [List.getElem_toArray]
    try simp only [List.getElem_cons_succ]
    try simp only [List.getElem_cons_zero]
    try simp only [List.setIfInBounds_toArray, List.set_cons_succ, List.set_cons_zero]
    have B5 : Hid (Below w.heap.size w w5) := HBX2.out.trans (HB5.out.mono HBX2.out.size)
    have hS5 := (HS.out.on B5.out hbw).mono (Nat.le_refl _) B5.out.size (Nat.le_refl _) (Nat.le_refl _) (Nat.le_refl _)
    obtain ⟨w6, D6, hrun, hS6, hg6, hk6, hm6⟩ := hS5.put G2.out hn hbL (c := w4.heap.size) (f := fun y => V T2 y + dlN m f y) (Nat.le_trans hL B4.out.size) HW5.out
    unfold tiV at hrun
    have HS6 := hid_mkP hS6
    have HG6 := hid_mkP hg6
    have HK6 := hid_mkP hk6
    have HM6 := hid_mkP hm6
    have ht6 : TiAt w6 w.heap.size T2 := (hg6.block _ (by have := B5.out.size; have := (HQ2.out _ HB5.out).lt; omega) (fun e => by have := Option.some.inj e; omega)).trans (HQ2.out _ HB5.out)
    have HT6 := hid_mkP ht6
    clear hS5 hS6 hg6 hk6 hm6 ht6
    refine rd1 12 ?_
    intro K0 hK0
    go_simp
    refine hK0.out _ _ HT6.out (fun _ => ?_)
    clear hK0 K0
    refine wpAnyH_done (by kernel_rfl) ?_ _
    go_wp2
    exact bodyPost_end (results_none rfl _ _ _) rfl ⟨rfl, D6, HS6.out.congr (fun U _ => by
      by_cases e : U = T2
      · rw [if_pos e, if_pos e, e]
      · rw [if_neg e, if_neg e]), grown_but B5.out HG6.out hbw, HK6.out, HM6.out⟩
  · intro K0 hK0
    go_simp
    go_wp2_with (go_at_call 34; refine HG.out.mono ?_; rintro e9 w3 ⟨c3, rfl, hc3, hw3, hb3⟩)
    have HB3 := hid_mkP (HD2.out.trans (hb3.mono HD2.out.size))
    have HW3 := hid_mkP hw3
    clear hb3 hw3
    refine hK0.out _ _ (HQ2.out _ HB3.out) (fun _ => ?_)
    clear hK0 K0
    try simp only [Act.put]
    try simp only [List.getElem_toArray]
    try simp only [List.getElem_cons_succ]
    try simp only [List.getElem_cons_zero]
    try simp only [List.setIfInBounds_toArray, List.set_cons_succ, List.set_cons_zero]
    have B3 : Hid (Below w.heap.size w w3) := HBX2.out.trans (HB3.out.mono HBX2.out.size)
    have HTM := hid_mkP (times_wkG (.map (some c)) (.map (some c3)) M (2 * (2 * m) + 1) J (2 * m) Hf 2 (rgL m) f (dlN m oneA) w3 (by omega) (by omega) (by omega) HH.out HFB.out (rgL_bd hc2) ((HF.out.on B3.out).mono B3.out.size (Nat.le_refl _) (Nat.le_refl _)) HW3.out (by simp) (rgL_coef hc2))
    refine rd2 4 10 ?_ ?_
    · intro K0 hK0
      have hlk := HLK.out _ HB3.out
      go_simp
      refine hK0.out _ _ (HQ2.out _ HB3.out) (fun _ => ?_)
      clear hK0 K0 hlk
      try simp only [Act.put]
      try simp only [List.getElem_toArray]
      try simp only [List.getElem_cons_succ]
      try simp only [List.getElem_cons_zero]
      try simp only [List.setIfInBounds_toArray, List.set_cons_succ, List.set_cons_zero]
      refine rd1 10 ?_
      intro K0 hK0
      go_simp
      go_wp2_with (go_at_call 20; refine HTM.out.mono ?_; rintro e9 w4 ⟨rfl, hw4, hb4⟩)
      have HB4 := hid_mkP (HB3.out.trans (hb4.mono HB3.out.size))
      rw [rgL_prod hc2] at hw4
      have HW4 := hid_mkP (hw4.mono (Nat.le_refl _) (show 2 * (J + 2 * m) + 1 ≤ 2 * K + 1 by omega) (show J + 2 * m ≤ K by omega))
      clear hb4 hw4
      refine hK0.out _ _ (HQ2.out _ HB4.out) (fun _ => ?_)
      clear hK0 K0
      try simp only [Act.put]
      try simp only [List.getElem_toArray]
      try simp only [List.getElem_cons_succ]
      try simp only [List.getElem_cons_zero]
      try simp only [List.setIfInBounds_toArray, List.set_cons_succ, List.set_cons_zero]
      have B4 : Hid (Below w.heap.size w w4) := HBX2.out.trans (HB4.out.mono HBX2.out.size)
      have hwv := (HV1.out.on (HB4.out.mono (by omega : w.heap.size ≤ X2.heap.size))).mono B4.out.size (Nat.le_refl _) (Nat.le_refl _)
      have HPL := hid_mkP (plus_wkG v (.map (some w3.heap.size)) (2 * K + 1) (2 * K + 1) K (V T2) (dlN m f) w4 (by omega) (by omega) hK2 HVB.out HDB.out hwv HW4.out (by simp))
      clear hwv
      refine rd1 11 ?_
      intro K0 hK0
      go_simp
      go_wp2_with (go_at_call 49; refine HPL.out.mono ?_; rintro e9 w5 ⟨rfl, hw5, hb5⟩)
      have HB5 := hid_mkP (HB4.out.trans (hb5.mono HB4.out.size))
      have HW5 := hid_mkP hw5
      clear hb5 hw5 HPL
      refine hK0.out _ _ (HQ2.out _ HB5.out) (fun _ => ?_)
      clear hK0 K0
      try simp only [Act.put]
      try simp only [List.getElem_toArray]
      try simp only [List.getElem_cons_succ]
      try simp only [List.getElem_cons_zero]
      try simp only [List.setIfInBounds_toArray, List.set_cons_succ, List.set_cons_zero]
      have B5 : Hid (Below w.heap.size w w5) := HBX2.out.trans (HB5.out.mono HBX2.out.size)
      have hS5 := (HS.out.on B5.out hbw).mono (Nat.le_refl _) B5.out.size (Nat.le_refl _) (Nat.le_refl _) (Nat.le_refl _)
      obtain ⟨w6, D6, hrun, hS6, hg6, hk6, hm6⟩ := hS5.put G2.out hn hbL (c := w4.heap.size) (f := fun y => V T2 y + dlN m f y) (Nat.le_trans hL B4.out.size) HW5.out
      unfold tiV at hrun
      have HS6 := hid_mkP hS6
      have HG6 := hid_mkP hg6
      have HK6 := hid_mkP hk6
      have HM6 := hid_mkP hm6
      have ht6 : TiAt w6 w.heap.size T2 := (hg6.block _ (by have := B5.out.size; have := (HQ2.out _ HB5.out).lt; omega) (fun e => by have := Option.some.inj e; omega)).trans (HQ2.out _ HB5.out)
      have HT6 := hid_mkP ht6
      clear hS5 hS6 hg6 hk6 hm6 ht6
      refine rd1 12 ?_
      intro K0 hK0
      go_simp
      refine hK0.out _ _ HT6.out (fun _ => ?_)
      clear hK0 K0
      refine wpAnyH_done (by kernel_rfl) ?_ _
      go_wp2
      exact bodyPost_end (results_none rfl _ _ _) rfl ⟨rfl, D6, HS6.out.congr (fun U _ => by
        by_cases e : U = T2
        · rw [if_pos e, if_pos e, e]
        · rw [if_neg e, if_neg e]), grown_but B5.out HG6.out hbw, HK6.out, HM6.out⟩
    · intro K0 hK0
      go_simp
      go_wp2_with (go_at_call 20; refine HTM.out.mono ?_; rintro e9 w4 ⟨rfl, hw4, hb4⟩)
      have HB4 := hid_mkP (HB3.out.trans (hb4.mono HB3.out.size))
      rw [rgL_prod hc2] at hw4
      have HW4 := hid_mkP (hw4.mono (Nat.le_refl _) (show 2 * (J + 2 * m) + 1 ≤ 2 * K + 1 by omega) (show J + 2 * m ≤ K by omega))
      clear hb4 hw4
      refine hK0.out _ _ (HQ2.out _ HB4.out) (fun _ => ?_)
      clear hK0 K0
      try simp only [Act.put]
      try simp only [List.getElem_toArray]
      try simp only [List.getElem_cons_succ]
      try simp only [List.getElem_cons_zero]
      try simp only [List.setIfInBounds_toArray, List.set_cons_succ, List.set_cons_zero]
      refine rd1 4 ?_
      intro K0 hK0
      have hlk := HLK.out _ HB4.out
      go_simp
      refine hK0.out _ _ (HQ2.out _ HB4.out) (fun _ => ?_)
      clear hK0 K0 hlk
      try simp only [Act.put]
      try simp only [List.getElem_toArray]
      try simp only [List.getElem_cons_succ]
      try simp only [List.getElem_cons_zero]
      try simp only [List.setIfInBounds_toArray, List.set_cons_succ, List.set_cons_zero]
      have B4 : Hid (Below w.heap.size w w4) := HBX2.out.trans (HB4.out.mono HBX2.out.size)
      have hwv := (HV1.out.on (HB4.out.mono (by omega : w.heap.size ≤ X2.heap.size))).mono B4.out.size (Nat.le_refl _) (Nat.le_refl _)
      have HPL := hid_mkP (plus_wkG v (.map (some w3.heap.size)) (2 * K + 1) (2 * K + 1) K (V T2) (dlN m f) w4 (by omega) (by omega) hK2 HVB.out HDB.out hwv HW4.out (by simp))
      clear hwv
      refine rd1 11 ?_
      intro K0 hK0
      go_simp
      go_wp2_with (go_at_call 49; refine HPL.out.mono ?_; rintro e9 w5 ⟨rfl, hw5, hb5⟩)
      have HB5 := hid_mkP (HB4.out.trans (hb5.mono HB4.out.size))
      have HW5 := hid_mkP hw5
      clear hb5 hw5 HPL
      refine hK0.out _ _ (HQ2.out _ HB5.out) (fun _ => ?_)
      clear hK0 K0
      try simp only [Act.put]
      try simp only [List.getElem_toArray]
      try simp only [List.getElem_cons_succ]
      try simp only [List.getElem_cons_zero]
      try simp only [List.setIfInBounds_toArray, List.set_cons_succ, List.set_cons_zero]
      have B5 : Hid (Below w.heap.size w w5) := HBX2.out.trans (HB5.out.mono HBX2.out.size)
      have hS5 := (HS.out.on B5.out hbw).mono (Nat.le_refl _) B5.out.size (Nat.le_refl _) (Nat.le_refl _) (Nat.le_refl _)
      obtain ⟨w6, D6, hrun, hS6, hg6, hk6, hm6⟩ := hS5.put G2.out hn hbL (c := w4.heap.size) (f := fun y => V T2 y + dlN m f y) (Nat.le_trans hL B4.out.size) HW5.out
      unfold tiV at hrun
      have HS6 := hid_mkP hS6
      have HG6 := hid_mkP hg6
      have HK6 := hid_mkP hk6
      have HM6 := hid_mkP hm6
      have ht6 : TiAt w6 w.heap.size T2 := (hg6.block _ (by have := B5.out.size; have := (HQ2.out _ HB5.out).lt; omega) (fun e => by have := Option.some.inj e; omega)).trans (HQ2.out _ HB5.out)
      have HT6 := hid_mkP ht6
      clear hS5 hS6 hg6 hk6 hm6 ht6
      refine rd1 12 ?_
      intro K0 hK0
      go_simp
      refine hK0.out _ _ HT6.out (fun _ => ?_)
      clear hK0 K0
      refine wpAnyH_done (by kernel_rfl) ?_ _
      go_wp2
      exact bodyPost_end (results_none rfl _ _ _) rfl ⟨rfl, D6, HS6.out.congr (fun U _ => by
        by_cases e : U = T2
        · rw [if_pos e, if_pos e, e]
        · rw [if_neg e, if_neg e]), grown_but B5.out HG6.out hbw, HK6.out, HM6.out⟩

set_option maxHeartbeats 16000000 in
set_option maxRecDepth 100000 in
theorem addB (L b n K M J Hf : Nat) (V : List Nat → Int → Int) (D : DataW Unit) (T : List Nat) (f : Int → Int) (c a0 a1 a2 a3 : Nat) (w : World) (hT : GoodK T) (h0 : a0 < 26) (h1 : a1 < 26) (h2 : a2 < 26) (h3 : a3 < 26) (hR : RingAt w) (hL : L ≤ w.heap.size) (hbL : b < L) (hn : n < 100000000)
    (hK : J + 4 ≤ K) (hK2 : K ≤ 900) (hM : M ≤ 10000) (hS : SumD w L w.heap.size b n K (2 * K + 1) V D) (hf : WkV w w.heap.size (.map (some c)) M J f) (hH : (2 * J + 1) * (Hf * 2) ≤ 4000000000000000000) (hfb : ∀ y, (f y).natAbs ≤ Hf) (hVb : ∀ y, (V (t4 T a1 a2 a3 a0) y).natAbs ≤ 1000000000000000000) (hdb : ∀ y, (dlN (c4 T a1 a2 a3 a0) f y).natAbs ≤ 1000000000000000000) :
    Calls Tryd.prog 48 #[.map (some b), tiV T, .map (some c), .agg #[.int .i64 (a0 : Nat), .int .i64 (a1 : Nat), .int .i64 (a2 : Nat), .int .i64 (a3 : Nat)], .int .i64 1] w fun e w' => e = .returned (.tuple #[]) ∧ ∃ D', SumD w' L w'.heap.size b (n + 1) K (2 * K + 1) (fun U => if U = t4 T a1 a2 a3 a0 then (fun y => V U y + dlN (c4 T a1 a2 a3 a0) f y) else V U) D' ∧ w.grownBy w' (some b) ∧ (∀ l, keyOf Tryd.prog 83 (tiV (t4 T a1 a2 a3 a0)) = some l → Maps.has D' l = true) ∧ (∀ kl, Maps.has D kl = true → Maps.has D' kl = true) := by
  obtain ⟨T1, hT1⟩ : ∃ X, tieT T a1 a2 = X := ⟨_, rfl⟩
  obtain ⟨T2, hT2⟩ : ∃ X, tieT T1 a3 a0 = X := ⟨_, rfl⟩
  obtain ⟨n1, hn1⟩ : ∃ X, tieN T a1 a2 = X := ⟨_, rfl⟩
  obtain ⟨n2, hn2⟩ : ∃ X, tieN T1 a3 a0 = X := ⟨_, rfl⟩
  have e4 : t4 T a1 a2 a3 a0 = T2 := by unfold t4; rw [hT1, hT2]
  have ec : c4 T a1 a2 a3 a0 = n1 + n2 := by unfold c4; rw [hn1, hT1, hn2]
  have hc2 : n1 + n2 ≤ 2 := by rw [← ec]; exact c4_le _ _ _ _ _
  obtain ⟨m, hm⟩ : ∃ X, n1 + n2 = X := ⟨_, rfl⟩
  rw [e4] at hVb ⊢
  rw [ec, hm] at hdb ⊢
  rw [hm] at hc2
  have HMM := hid_mkP hm
  clear hm
  have g1 : GoodK T1 := by rw [← hT1]; exact hT.tie _ _
  have g2 : GoodK T2 := by rw [← hT2]; exact g1.tie _ _
  have HC1 : Hid (∀ W, Calls Tryd.prog 59 #[.agg (tiA T), .int .i64 (a1 : Nat), .int .i64 (a2 : Nat)] W fun e w' => e = .returned (.tuple #[.agg (tiA T1), .int .i64 (n1 : Nat)]) ∧ Below W.heap.size W w') := fun W => by rw [← hT1, ← hn1]; exact tied_any T a1 a2 W hT (by omega) (by omega)
  have HC2 : Hid (∀ W, Calls Tryd.prog 59 #[.agg (tiA T1), .int .i64 (a3 : Nat), .int .i64 (a0 : Nat)] W fun e w' => e = .returned (.tuple #[.agg (tiA T2), .int .i64 (n2 : Nat)]) ∧ Below W.heap.size W w') := fun W => by rw [← hT2, ← hn2]; exact tied_any T1 a3 a0 W g1 (by omega) (by omega)
  clear hT1 hT2 hn1 hn2 e4 ec
  have HT := hid_mkP hT
  have G1 := hid_mkP g1
  have G2 := hid_mkP g2
  have HR := hid_mkP hR
  have HS := hid_mkP hS
  have HF := hid_mkP hf
  have HFB := hid_mkP hfb
  have HVB := hid_mkP hVb
  have HDB := hid_mkP hdb
  have HH := hid_mkP hH
  have hbw : b < w.heap.size := by omega
  clear hT g1 g2 hR hS hf hfb hVb hdb hH
  obtain ⟨V0, hV0⟩ : ∃ X, (w.alloc (.cells (tiA T) 83)).alloc (.cells #[.int .i64 (a0 : Nat), .int .i64 (a1 : Nat), .int .i64 (a2 : Nat), .int .i64 (a3 : Nat)] 75) = X := ⟨_, rfl⟩
  have B0 : Hid (Below w.heap.size w V0) := (by rw [← hV0]; exact ((Below.refl _ _).alloc (Nat.le_refl _) _).alloc (by simp) _ : Below w.heap.size w V0)
  have T0 : Hid (TiAt V0 w.heap.size T) := (by
    rw [← hV0]; unfold TiAt
    rw [heap_alloc_old _ _ (by simp), heap_alloc_new] : TiAt V0 w.heap.size T)
  have A0 : Hid (V0.heap[w.heap.size + 1]? = some (.cells #[.int .i64 (a0 : Nat), .int .i64 (a1 : Nat), .int .i64 (a2 : Nat), .int .i64 (a3 : Nat)] 75 (0, 0))) := (by
    rw [← hV0]
    have := heap_alloc_new (w.alloc (.cells (tiA T) 83)) (.cells #[.int .i64 (a0 : Nat), .int .i64 (a1 : Nat), .int .i64 (a2 : Nat), .int .i64 (a3 : Nat)] 75)
    rw [show (w.alloc (.cells (tiA T) 83)).heap.size = w.heap.size + 1 by simp] at this
    exact this : V0.heap[w.heap.size + 1]? = _)
  have s0 : w.heap.size + 1 < V0.heap.size := (Array.getElem?_eq_some_iff.1 A0.out).1
  have HV0 := hid_mkP hV0
  clear hV0
  have HQ0 : Hid (∀ W, Below V0.heap.size V0 W → (fun X : World => X.cell? ⟨w.heap.size + 1, 0, none⟩ = some (.int .i64 (a0 : Nat)) ∧ X.cell? ⟨w.heap.size + 1, 1, none⟩ = some (.int .i64 (a1 : Nat)) ∧ X.cell? ⟨w.heap.size + 1, 2, none⟩ = some (.int .i64 (a2 : Nat)) ∧ X.cell? ⟨w.heap.size + 1, 3, none⟩ = some (.int .i64 (a3 : Nat))) W) := fun W hW => arF ((hW.block _ s0).trans A0.out)
  have HD0 : Hid (Below V0.heap.size V0 V0.drew) := (Below.refl _ _).drew
  unfold tiV
  go_enter Tryd.func48, Tryd.ntmps48
  go_upto_region 1 with (fail)
  rw [HV0.out]
  refine rhd HQ0 HD0.out (fun hHeld => ?_)
  have x1 : IntKind.i64.wrap 1 = 1 := by decide
  have x2 : IntKind.i64.wrap 2 = 2 := by decide
  refine tq 14 1 (h := ?_)
  simp only [List.setIfInBounds_toArray, List.set_cons_succ, List.set_cons_zero]
  refine tq 15 2 (h := ?_)
  simp only [List.setIfInBounds_toArray, List.set_cons_succ, List.set_cons_zero]
  refine tq 16 3 (h := ?_)
  simp only [List.setIfInBounds_toArray, List.set_cons_succ, List.set_cons_zero]
  refine tq 17 4 (h := ?_)
  simp only [List.setIfInBounds_toArray, List.set_cons_succ, List.set_cons_zero]
  refine tq 18 5 (h := ?_)
  simp only [List.setIfInBounds_toArray, List.set_cons_succ, List.set_cons_zero]
  refine tq 19 6 (h := ?_)
  simp only [List.setIfInBounds_toArray, List.set_cons_succ, List.set_cons_zero]
  refine tq 20 7 (h := ?_)
  simp only [List.setIfInBounds_toArray, List.set_cons_succ, List.set_cons_zero]
  clear hHeld x1 x2
  refine rd1 0 ?_
  intro K0 hK0
  refine wp_load_row 83 _ rfl w.heap.size rfl 83 _ (0, 0) _ (T0.out.on HD0.out (by omega)) Tryd.underlying83 rfl (infoBT HT.out) ?_
  refine hK0.out _ _ (HQ0.out _ HD0.out) (fun _ => ?_)
  clear hK0 K0
  try simp only [Act.put]
  try simp only [List.getElem_toArray]
  try simp only [List.getElem_cons_succ]
  try simp only [List.getElem_cons_zero]
  try simp only [List.setIfInBounds_toArray, List.set_cons_succ, List.set_cons_zero]
  refine rd1 8 ?_
  intro K0 hK0
  go_simp
  go_wp2_with (go_at_call 59; refine (HC1.out _).mono ?_; rintro e9 w1 ⟨rfl, hb1⟩)
  have HB1 := hid_mkP (HD0.out.trans (hb1.mono HD0.out.size))
  clear hb1
  refine hK0.out _ _ (HQ0.out _ HB1.out) (fun hHeld => ?_)
  clear hK0 K0
  try simp only [Act.put]
  try simp only [List.getElem_toArray]
  try simp only [List.getElem_cons_succ]
  try simp only [List.getElem_cons_zero]
  try simp only [List.setIfInBounds_toArray, List.set_cons_succ, List.set_cons_zero]
  refine tq 12 9 (h := ?_)
  simp only [List.setIfInBounds_toArray, List.set_cons_succ, List.set_cons_zero]
  refine tq 22 10 (h := ?_)
  simp only [List.setIfInBounds_toArray, List.set_cons_succ, List.set_cons_zero]
  refine tq 23 11 (h := ?_)
  simp only [List.setIfInBounds_toArray, List.set_cons_succ, List.set_cons_zero]
  clear hHeld
  have TI1 : Hid (TiAt w1 w.heap.size T) := T0.out.on HB1.out (by omega)
  have hX1 : TiAt (w1.setRow w.heap.size (tiA T1)) w.heap.size T1 := TI1.out.row
  have hA1 : (w1.setRow w.heap.size (tiA T1)).heap[w.heap.size + 1]? = _ := (setRow_other (by omega)).trans ((HB1.out.block _ s0).trans A0.out)
  have hB1 : Below w.heap.size w (w1.setRow w.heap.size (tiA T1)) := setRow_below (B0.out.trans (HB1.out.mono B0.out.size)) (Nat.le_refl _)
  refine rd1 12 ?_
  intro K0 hK0
  refine wp_store_row 83 _ _ rfl w.heap.size (tiA T1) rfl rfl 83 _ TI1.out (infoBT G1.out) (by rw [tiA_size HT.out, tiA_size G1.out]) (tiA_all _) ?_
  refine hK0.out _ _ (arF hA1) (fun hHeld => ?_)
  clear hK0 K0
  generalize w1.setRow w.heap.size (tiA T1) = X1 at *
  try simp only [Act.put]
  try simp only [List.getElem_toArray]
  try simp only [List.getElem_cons_succ]
  try simp only [List.getElem_cons_zero]
  try simp only [List.setIfInBounds_toArray, List.set_cons_succ, List.set_cons_zero]
  refine tq 10 13 (h := ?_)
  simp only [List.setIfInBounds_toArray, List.set_cons_succ, List.set_cons_zero]
  refine wpAnyH_done (by kernel_rfl) ?_ _
  clear hHeld
  have HX1 := hid_mkP hX1
  have HA1 := hid_mkP hA1
  have HBX1 := hid_mkP hB1
  have s1 : w.heap.size + 1 < X1.heap.size := (Array.getElem?_eq_some_iff.1 hA1).1
  clear hX1 hA1 hB1 TI1 HB1 HQ0 HD0 T0 A0 B0 HV0 s0
  have HQ1 : Hid (∀ W, Below X1.heap.size X1 W → (fun X : World => X.cell? ⟨w.heap.size + 1, 0, none⟩ = some (.int .i64 (a0 : Nat)) ∧ X.cell? ⟨w.heap.size + 1, 1, none⟩ = some (.int .i64 (a1 : Nat)) ∧ X.cell? ⟨w.heap.size + 1, 2, none⟩ = some (.int .i64 (a2 : Nat)) ∧ X.cell? ⟨w.heap.size + 1, 3, none⟩ = some (.int .i64 (a3 : Nat))) W) := fun W hW => arF ((hW.block _ s1).trans HA1.out)
  have HD1 : Hid (Below X1.heap.size X1 X1.drew) := (Below.refl _ _).drew
  go_upto_region 2 with (fail)
  refine rhd HQ1 HD1.out (fun hHeld => ?_)
  have x2 : IntKind.i64.wrap 2 = 2 := by decide
  have x3 : IntKind.i64.wrap 3 = 3 := by decide
  have x4 : IntKind.i64.wrap 4 = 4 := by decide
  have x0 : IntKind.i64.wrap 0 = 0 := by decide
  have m3 : Int.tmod 3 4 = 3 := by decide
  have m4 : Int.tmod 4 4 = 0 := by decide
  refine tq 26 1 (h := ?_)
  simp only [List.setIfInBounds_toArray, List.set_cons_succ, List.set_cons_zero]
  refine tq 27 2 (h := ?_)
  simp only [List.setIfInBounds_toArray, List.set_cons_succ, List.set_cons_zero]
  refine tq 28 3 (h := ?_)
  simp only [List.setIfInBounds_toArray, List.set_cons_succ, List.set_cons_zero]
  refine tq 29 4 (h := ?_)
  simp only [List.setIfInBounds_toArray, List.set_cons_succ, List.set_cons_zero]
  refine tq 30 5 (h := ?_)
  simp only [List.setIfInBounds_toArray, List.set_cons_succ, List.set_cons_zero]
  refine tq 31 6 (h := ?_)
  simp only [List.setIfInBounds_toArray, List.set_cons_succ, List.set_cons_zero]
  refine tq 32 7 (h := ?_)
  simp only [List.setIfInBounds_toArray, List.set_cons_succ, List.set_cons_zero]
  refine tq 33 8 (h := ?_)
  simp only [List.setIfInBounds_toArray, List.set_cons_succ, List.set_cons_zero]
  refine tq 34 9 (h := ?_)
  simp only [List.setIfInBounds_toArray, List.set_cons_succ, List.set_cons_zero]
  clear hHeld x2 x3 x4 x0 m3 m4
  refine rd1 0 ?_
  intro K0 hK0
  refine wp_load_row 83 _ rfl w.heap.size rfl 83 _ (0, 0) _ (HX1.out.on HD1.out (by omega)) Tryd.underlying83 rfl (infoBT G1.out) ?_
  refine hK0.out _ _ (HQ1.out _ HD1.out) (fun _ => ?_)
  clear hK0 K0
  try simp only [Act.put]
  try simp only [List.getElem_toArray]
  try simp only [List.getElem_cons_succ]
  try simp only [List.getElem_cons_zero]
  try simp only [List.setIfInBounds_toArray, List.set_cons_succ, List.set_cons_zero]
  refine rd1 10 ?_
  intro K0 hK0
  go_simp
  go_wp2_with (go_at_call 59; refine (HC2.out _).mono ?_; rintro e9 w2 ⟨rfl, hb2⟩)
  have HB2 := hid_mkP (HD1.out.trans (hb2.mono HD1.out.size))
  clear hb2
  refine hK0.out _ _ (HQ1.out _ HB2.out) (fun hHeld => ?_)
  clear hK0 K0
  try simp only [Act.put]
  try simp only [List.getElem_toArray]
  try simp only [List.getElem_cons_succ]
  try simp only [List.getElem_cons_zero]
  try simp only [List.setIfInBounds_toArray, List.set_cons_succ, List.set_cons_zero]
  refine tq 24 11 (h := ?_)
  simp only [List.setIfInBounds_toArray, List.set_cons_succ, List.set_cons_zero]
  refine tq 36 12 (h := ?_)
  simp only [List.setIfInBounds_toArray, List.set_cons_succ, List.set_cons_zero]
  refine tq 37 13 (h := ?_)
  simp only [List.setIfInBounds_toArray, List.set_cons_succ, List.set_cons_zero]
  clear hHeld
  have TI2 : Hid (TiAt w2 w.heap.size T1) := HX1.out.on HB2.out (by omega)
  have hX2 : TiAt (w2.setRow w.heap.size (tiA T2)) w.heap.size T2 := TI2.out.row
  have hA2 : (w2.setRow w.heap.size (tiA T2)).heap[w.heap.size + 1]? = _ := (setRow_other (by omega)).trans ((HB2.out.block _ s1).trans HA1.out)
  have hB2 : Below w.heap.size w (w2.setRow w.heap.size (tiA T2)) := setRow_below (HBX1.out.trans (HB2.out.mono HBX1.out.size)) (Nat.le_refl _)
  refine rd1 14 ?_
  intro K0 hK0
  refine wp_store_row 83 _ _ rfl w.heap.size (tiA T2) rfl rfl 83 _ TI2.out (infoBT G2.out) (by rw [tiA_size G1.out, tiA_size G2.out]) (tiA_all _) ?_
  refine hK0.out _ _ (arF hA2) (fun hHeld => ?_)
  clear hK0 K0
  generalize w2.setRow w.heap.size (tiA T2) = X2 at *
  try simp only [Act.put]
  try simp only [List.getElem_toArray]
  try simp only [List.getElem_cons_succ]
  try simp only [List.getElem_cons_zero]
  try simp only [List.setIfInBounds_toArray, List.set_cons_succ, List.set_cons_zero]
  refine tq 11 15 (h := ?_)
  simp only [List.setIfInBounds_toArray, List.set_cons_succ, List.set_cons_zero]
  refine wpAnyH_done (by kernel_rfl) ?_ _
  have HX2 := hid_mkP hX2
  have HBX2 := hid_mkP hB2
  have s2 : w.heap.size + 1 < X2.heap.size := (Array.getElem?_eq_some_iff.1 hA2).1
  clear hHeld hX2 hA2 hB2 TI2 HB2 HQ1 HD1 HX1 HA1 HBX1 s1
  have hS2 := HS.out.on HBX2.out hbw
  obtain ⟨v, hv1, hv2⟩ := hS2.look2 G2.out hbw
  have HV1 := hid_mkP hv1
  have HQ2 : Hid (∀ W, Below X2.heap.size X2 W → (fun X : World => TiAt X w.heap.size T2) W) := fun W hW => HX2.out.on hW (by omega)
  have HLK : Hid (∀ W, Below X2.heap.size X2 W → (Instr.lookup 86 (.map (some b)) (.agg (tiA T2)) false).run Tryd.prog W = .ok v W) := fun W hW => hv2 W (hW.mono (by omega))
  have HS2 := hid_mkP hS2
  have HD2 : Hid (Below X2.heap.size X2 X2.drew) := (Below.refl _ _).drew
  clear hv1 hv2 hS2
  go_upto_region 3 with (fail)
  refine rhd HQ2 HD2.out (fun hHeld => ?_)
  have x5 : IntKind.i64.wrap ((n1 : Int) + (n2 : Int)) = (m : Int) := by rw [show ((n1 : Int) + (n2 : Int)) = (m : Int) by have := HMM.out; omega]; exact wrap_small (by omega)
  refine tq 38 0 (h := ?_)
  simp only [List.setIfInBounds_toArray, List.set_cons_succ, List.set_cons_zero]
  refine tq 39 1 (hy := fun W hW => ex_row 83 _ rfl w.heap.size rfl 83 _ (0, 0) _ hW Tryd.underlying83 rfl (infoBT G2.out)) (h := ?_)
  simp only [List.setIfInBounds_toArray, List.set_cons_succ, List.set_cons_zero]
  refine tq 40 2 (h := ?_)
  simp only [List.setIfInBounds_toArray, List.set_cons_succ, List.set_cons_zero]
  refine tq 41 3 (hy := fun W hW => ex_row 83 _ rfl w.heap.size rfl 83 _ (0, 0) _ hW Tryd.underlying83 rfl (infoBT G2.out)) (h := ?_)
  simp only [List.setIfInBounds_toArray, List.set_cons_succ, List.set_cons_zero]
  refine tq 43 5 (h := ?_)
  simp only [List.setIfInBounds_toArray, List.set_cons_succ, List.set_cons_zero]
  refine tq 44 6 (h := ?_)
  simp only [List.setIfInBounds_toArray, List.set_cons_succ, List.set_cons_zero]
  refine tq 45 7 (h := ?_)
  simp only [List.setIfInBounds_toArray, List.set_cons_succ, List.set_cons_zero]
  refine tq 46 8 (h := ?_)
  simp only [List.setIfInBounds_toArray, List.set_cons_succ, List.set_cons_zero]
  clear hHeld x5
  have HRX : Hid (RingAt X2.drew) := HR.out.any (HBX2.out.trans (HD2.out.mono HBX2.out.size))
  have HG := hid_mkP (rings_any m X2.drew (by omega) HRX.out)
  refine rd2 4 9 ?_ ?_
  · intro K0 hK0
    have hlk := HLK.out _ HD2.out
    go_simp
    refine hK0.out _ _ (HQ2.out _ HD2.out) (fun _ => ?_)
    clear hK0 K0 hlk
    try simp only [Act.put]
    try simp only [List.getElem_toArray]
    try simp only [List.getElem_cons_succ]
    try simp only [List.getElem_cons_zero]
    try simp only [List.setIfInBounds_toArray, List.set_cons_succ, List.set_cons_zero]
    refine rd1 9 ?_
    intro K0 hK0
    go_simp
    go_wp2_with (go_at_call 34; refine HG.out.mono ?_; rintro e9 w3 ⟨c3, rfl, hc3, hw3, hb3⟩)
    have HB3 := hid_mkP (HD2.out.trans (hb3.mono HD2.out.size))
    have HW3 := hid_mkP hw3
    clear hb3 hw3
    refine hK0.out _ _ (HQ2.out _ HB3.out) (fun _ => ?_)
    clear hK0 K0
    try simp only [Act.put]
    try simp only [List.getElem_toArray]
    try simp only [List.getElem_cons_succ]
    try simp only [List.getElem_cons_zero]
    try simp only [List.setIfInBounds_toArray, List.set_cons_succ, List.set_cons_zero]
    have B3 : Hid (Below w.heap.size w w3) := HBX2.out.trans (HB3.out.mono HBX2.out.size)
    have HTM := hid_mkP (times_wkG (.map (some c)) (.map (some c3)) M (2 * (2 * m) + 1) J (2 * m) Hf 2 (rgL m) f (dlN m oneA) w3 (by omega) (by omega) (by omega) HH.out HFB.out (rgL_bd hc2) ((HF.out.on B3.out).mono B3.out.size (Nat.le_refl _) (Nat.le_refl _)) HW3.out (by simp) (rgL_coef hc2))
    refine rd1 10 ?_
    intro K0 hK0
    go_simp
    go_wp2_with (go_at_call 20; refine HTM.out.mono ?_; rintro e9 w4 ⟨rfl, hw4, hb4⟩)
    have HB4 := hid_mkP (HB3.out.trans (hb4.mono HB3.out.size))
    rw [rgL_prod hc2] at hw4
    have HW4 := hid_mkP (hw4.mono (Nat.le_refl _) (show 2 * (J + 2 * m) + 1 ≤ 2 * K + 1 by omega) (show J + 2 * m ≤ K by omega))
    clear hb4 hw4
    refine hK0.out _ _ (HQ2.out _ HB4.out) (fun _ => ?_)
    clear hK0 K0
    try simp only [Act.put]
    try simp only [List.getElem_toArray]
    try simp only [List.getElem_cons_succ]
    try simp only [List.getElem_cons_zero]
    try simp only [List.setIfInBounds_toArray, List.set_cons_succ, List.set_cons_zero]
    have B4 : Hid (Below w.heap.size w w4) := HBX2.out.trans (HB4.out.mono HBX2.out.size)
    have hwv := (HV1.out.on (HB4.out.mono (by omega : w.heap.size ≤ X2.heap.size))).mono B4.out.size (Nat.le_refl _) (Nat.le_refl _)
    have HPL := hid_mkP (plus_wkG v (.map (some w3.heap.size)) (2 * K + 1) (2 * K + 1) K (V T2) (dlN m f) w4 (by omega) (by omega) hK2 HVB.out HDB.out hwv HW4.out (by simp))
    clear hwv
    refine rd1 11 ?_
    intro K0 hK0
    go_simp
    go_wp2_with (go_at_call 49; refine HPL.out.mono ?_; rintro e9 w5 ⟨rfl, hw5, hb5⟩)
    have HB5 := hid_mkP (HB4.out.trans (hb5.mono HB4.out.size))
    have HW5 := hid_mkP hw5
    clear hb5 hw5 HPL
    refine hK0.out _ _ (HQ2.out _ HB5.out) (fun _ => ?_)
    clear hK0 K0
    try simp only [Act.put]
    try simp only [List.getElem_toArray]
    try simp only [List.getElem_cons_succ]
    try simp only [List.getElem_cons_zero]
    try simp only [List.setIfInBounds_toArray, List.set_cons_succ, List.set_cons_zero]
    have B5 : Hid (Below w.heap.size w w5) := HBX2.out.trans (HB5.out.mono HBX2.out.size)
    have hS5 := (HS.out.on B5.out hbw).mono (Nat.le_refl _) B5.out.size (Nat.le_refl _) (Nat.le_refl _) (Nat.le_refl _)
    obtain ⟨w6, D6, hrun, hS6, hg6, hk6, hm6⟩ := hS5.put G2.out hn hbL (c := w4.heap.size) (f := fun y => V T2 y + dlN m f y) (Nat.le_trans hL B4.out.size) HW5.out
    unfold tiV at hrun
    have HS6 := hid_mkP hS6
    have HG6 := hid_mkP hg6
    have HK6 := hid_mkP hk6
    have HM6 := hid_mkP hm6
    have ht6 : TiAt w6 w.heap.size T2 := (hg6.block _ (by have := B5.out.size; have := (HQ2.out _ HB5.out).lt; omega) (fun e => by have := Option.some.inj e; omega)).trans (HQ2.out _ HB5.out)
    have HT6 := hid_mkP ht6
    clear hS5 hS6 hg6 hk6 hm6 ht6
    refine rd1 12 ?_
    intro K0 hK0
    go_simp
    refine hK0.out _ _ HT6.out (fun _ => ?_)
    clear hK0 K0
    refine wpAnyH_done (by kernel_rfl) ?_ _
    go_wp2
    exact bodyPost_end (results_none rfl _ _ _) rfl ⟨rfl, D6, HS6.out.congr (fun U _ => by
      by_cases e : U = T2
      · rw [if_pos e, if_pos e, e]
      · rw [if_neg e, if_neg e]), grown_but B5.out HG6.out hbw, HK6.out, HM6.out⟩
  · intro K0 hK0
    go_simp
    go_wp2_with (go_at_call 34; refine HG.out.mono ?_; rintro e9 w3 ⟨c3, rfl, hc3, hw3, hb3⟩)
    have HB3 := hid_mkP (HD2.out.trans (hb3.mono HD2.out.size))
    have HW3 := hid_mkP hw3
    clear hb3 hw3
    refine hK0.out _ _ (HQ2.out _ HB3.out) (fun _ => ?_)
    clear hK0 K0
    try simp only [Act.put]
    try simp only [List.getElem_toArray]
    try simp only [List.getElem_cons_succ]
    try simp only [List.getElem_cons_zero]
    try simp only [List.setIfInBounds_toArray, List.set_cons_succ, List.set_cons_zero]
    have B3 : Hid (Below w.heap.size w w3) := HBX2.out.trans (HB3.out.mono HBX2.out.size)
    have HTM := hid_mkP (times_wkG (.map (some c)) (.map (some c3)) M (2 * (2 * m) + 1) J (2 * m) Hf 2 (rgL m) f (dlN m oneA) w3 (by omega) (by omega) (by omega) HH.out HFB.out (rgL_bd hc2) ((HF.out.on B3.out).mono B3.out.size (Nat.le_refl _) (Nat.le_refl _)) HW3.out (by simp) (rgL_coef hc2))
    refine rd2 4 10 ?_ ?_
    · intro K0 hK0
      have hlk := HLK.out _ HB3.out
      go_simp
      refine hK0.out _ _ (HQ2.out _ HB3.out) (fun _ => ?_)
      clear hK0 K0 hlk
      try simp only [Act.put]
      try simp only [List.getElem_toArray]
      try simp only [List.getElem_cons_succ]
      try simp only [List.getElem_cons_zero]
      try simp only [List.setIfInBounds_toArray, List.set_cons_succ, List.set_cons_zero]
      refine rd1 10 ?_
      intro K0 hK0
      go_simp
      go_wp2_with (go_at_call 20; refine HTM.out.mono ?_; rintro e9 w4 ⟨rfl, hw4, hb4⟩)
      have HB4 := hid_mkP (HB3.out.trans (hb4.mono HB3.out.size))
      rw [rgL_prod hc2] at hw4
      have HW4 := hid_mkP (hw4.mono (Nat.le_refl _) (show 2 * (J + 2 * m) + 1 ≤ 2 * K + 1 by omega) (show J + 2 * m ≤ K by omega))
      clear hb4 hw4
      refine hK0.out _ _ (HQ2.out _ HB4.out) (fun _ => ?_)
      clear hK0 K0
      try simp only [Act.put]
      try simp only [List.getElem_toArray]
      try simp only [List.getElem_cons_succ]
      try simp only [List.getElem_cons_zero]
      try simp only [List.setIfInBounds_toArray, List.set_cons_succ, List.set_cons_zero]
      have B4 : Hid (Below w.heap.size w w4) := HBX2.out.trans (HB4.out.mono HBX2.out.size)
      have hwv := (HV1.out.on (HB4.out.mono (by omega : w.heap.size ≤ X2.heap.size))).mono B4.out.size (Nat.le_refl _) (Nat.le_refl _)
      have HPL := hid_mkP (plus_wkG v (.map (some w3.heap.size)) (2 * K + 1) (2 * K + 1) K (V T2) (dlN m f) w4 (by omega) (by omega) hK2 HVB.out HDB.out hwv HW4.out (by simp))
      clear hwv
      refine rd1 11 ?_
      intro K0 hK0
      go_simp
      go_wp2_with (go_at_call 49; refine HPL.out.mono ?_; rintro e9 w5 ⟨rfl, hw5, hb5⟩)
      have HB5 := hid_mkP (HB4.out.trans (hb5.mono HB4.out.size))
      have HW5 := hid_mkP hw5
      clear hb5 hw5 HPL
      refine hK0.out _ _ (HQ2.out _ HB5.out) (fun _ => ?_)
      clear hK0 K0
      try simp only [Act.put]
      try simp only [List.getElem_toArray]
      try simp only [List.getElem_cons_succ]
      try simp only [List.getElem_cons_zero]
      try simp only [List.setIfInBounds_toArray, List.set_cons_succ, List.set_cons_zero]
      have B5 : Hid (Below w.heap.size w w5) := HBX2.out.trans (HB5.out.mono HBX2.out.size)
      have hS5 := (HS.out.on B5.out hbw).mono (Nat.le_refl _) B5.out.size (Nat.le_refl _) (Nat.le_refl _) (Nat.le_refl _)
      obtain ⟨w6, D6, hrun, hS6, hg6, hk6, hm6⟩ := hS5.put G2.out hn hbL (c := w4.heap.size) (f := fun y => V T2 y + dlN m f y) (Nat.le_trans hL B4.out.size) HW5.out
      unfold tiV at hrun
      have HS6 := hid_mkP hS6
      have HG6 := hid_mkP hg6
      have HK6 := hid_mkP hk6
      have HM6 := hid_mkP hm6
      have ht6 : TiAt w6 w.heap.size T2 := (hg6.block _ (by have := B5.out.size; have := (HQ2.out _ HB5.out).lt; omega) (fun e => by have := Option.some.inj e; omega)).trans (HQ2.out _ HB5.out)
      have HT6 := hid_mkP ht6
      clear hS5 hS6 hg6 hk6 hm6 ht6
      refine rd1 12 ?_
      intro K0 hK0
      go_simp
      refine hK0.out _ _ HT6.out (fun _ => ?_)
      clear hK0 K0
      refine wpAnyH_done (by kernel_rfl) ?_ _
      go_wp2
      exact bodyPost_end (results_none rfl _ _ _) rfl ⟨rfl, D6, HS6.out.congr (fun U _ => by
        by_cases e : U = T2
        · rw [if_pos e, if_pos e, e]
        · rw [if_neg e, if_neg e]), grown_but B5.out HG6.out hbw, HK6.out, HM6.out⟩
    · intro K0 hK0
      go_simp
      go_wp2_with (go_at_call 20; refine HTM.out.mono ?_; rintro e9 w4 ⟨rfl, hw4, hb4⟩)
      have HB4 := hid_mkP (HB3.out.trans (hb4.mono HB3.out.size))
      rw [rgL_prod hc2] at hw4
      have HW4 := hid_mkP (hw4.mono (Nat.le_refl _) (show 2 * (J + 2 * m) + 1 ≤ 2 * K + 1 by omega) (show J + 2 * m ≤ K by omega))
      clear hb4 hw4
      refine hK0.out _ _ (HQ2.out _ HB4.out) (fun _ => ?_)
      clear hK0 K0
      try simp only [Act.put]
      try simp only [List.getElem_toArray]
      try simp only [List.getElem_cons_succ]
      try simp only [List.getElem_cons_zero]
      try simp only [List.setIfInBounds_toArray, List.set_cons_succ, List.set_cons_zero]
      refine rd1 4 ?_
      intro K0 hK0
      have hlk := HLK.out _ HB4.out
      go_simp
      refine hK0.out _ _ (HQ2.out _ HB4.out) (fun _ => ?_)
      clear hK0 K0 hlk
      try simp only [Act.put]
      try simp only [List.getElem_toArray]
      try simp only [List.getElem_cons_succ]
      try simp only [List.getElem_cons_zero]
      try simp only [List.setIfInBounds_toArray, List.set_cons_succ, List.set_cons_zero]
      have B4 : Hid (Below w.heap.size w w4) := HBX2.out.trans (HB4.out.mono HBX2.out.size)
      have hwv := (HV1.out.on (HB4.out.mono (by omega : w.heap.size ≤ X2.heap.size))).mono B4.out.size (Nat.le_refl _) (Nat.le_refl _)
      have HPL := hid_mkP (plus_wkG v (.map (some w3.heap.size)) (2 * K + 1) (2 * K + 1) K (V T2) (dlN m f) w4 (by omega) (by omega) hK2 HVB.out HDB.out hwv HW4.out (by simp))
      clear hwv
      refine rd1 11 ?_
      intro K0 hK0
      go_simp
      go_wp2_with (go_at_call 49; refine HPL.out.mono ?_; rintro e9 w5 ⟨rfl, hw5, hb5⟩)
      have HB5 := hid_mkP (HB4.out.trans (hb5.mono HB4.out.size))
      have HW5 := hid_mkP hw5
      clear hb5 hw5 HPL
      refine hK0.out _ _ (HQ2.out _ HB5.out) (fun _ => ?_)
      clear hK0 K0
      try simp only [Act.put]
      try simp only [List.getElem_toArray]
      try simp only [List.getElem_cons_succ]
      try simp only [List.getElem_cons_zero]
      try simp only [List.setIfInBounds_toArray, List.set_cons_succ, List.set_cons_zero]
      have B5 : Hid (Below w.heap.size w w5) := HBX2.out.trans (HB5.out.mono HBX2.out.size)
      have hS5 := (HS.out.on B5.out hbw).mono (Nat.le_refl _) B5.out.size (Nat.le_refl _) (Nat.le_refl _) (Nat.le_refl _)
      obtain ⟨w6, D6, hrun, hS6, hg6, hk6, hm6⟩ := hS5.put G2.out hn hbL (c := w4.heap.size) (f := fun y => V T2 y + dlN m f y) (Nat.le_trans hL B4.out.size) HW5.out
      unfold tiV at hrun
      have HS6 := hid_mkP hS6
      have HG6 := hid_mkP hg6
      have HK6 := hid_mkP hk6
      have HM6 := hid_mkP hm6
      have ht6 : TiAt w6 w.heap.size T2 := (hg6.block _ (by have := B5.out.size; have := (HQ2.out _ HB5.out).lt; omega) (fun e => by have := Option.some.inj e; omega)).trans (HQ2.out _ HB5.out)
      have HT6 := hid_mkP ht6
      clear hS5 hS6 hg6 hk6 hm6 ht6
      refine rd1 12 ?_
      intro K0 hK0
      go_simp
      refine hK0.out _ _ HT6.out (fun _ => ?_)
      clear hK0 K0
      refine wpAnyH_done (by kernel_rfl) ?_ _
      go_wp2
      exact bodyPost_end (results_none rfl _ _ _) rfl ⟨rfl, D6, HS6.out.congr (fun U _ => by
        by_cases e : U = T2
        · rw [if_pos e, if_pos e, e]
        · rw [if_neg e, if_neg e]), grown_but B5.out HG6.out hbw, HK6.out, HM6.out⟩
end Go.Proofs.YtnlcknlodjjdbaaDoor.Poly
