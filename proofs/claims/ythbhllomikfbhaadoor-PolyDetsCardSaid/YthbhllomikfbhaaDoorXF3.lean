/- The walk of the function that lays a table out of raw numbers (knotworkkeep.PolyDets$1). -/
import Derived.Test.YthbhllomikfbhaaDoorXF2
namespace Go.Proofs.YthbhllomikfbhaaDoor.Poly
open Go.RowKit Go.Maps

theorem getL_left {α : Type} (R : List (List α)) (m : List α) (i : Nat) (h : i < R.length) : (R ++ [m]).getD i [] = R.getD i [] := by simp [List.getD, List.getElem?_append_left h]
theorem getL_last {α : Type} (R : List (List α)) (m : List α) : (R ++ [m]).getD R.length [] = m := by simp [List.getD]

theorem setC_setC (m : List (Int × Int)) (k : Nat) (a b : Int) (h : k < m.length) : setC (setC m k a) k b = setC m k b := by
  unfold setC
  simp [List.getD, h]

/-- A polynomial of at most two terms, exponents within 4, coefficients within 2. -/
def Two (l : List (Int × Int)) : Prop := Fine l 4 2 ∧ l.length ≤ 2
/-- Three rows of three such polynomials. -/
def TwoT (T : List (List (List (Int × Int)))) : Prop := T.length = 3 ∧ ∀ i, i < 3 → (T.getD i []).length = 3 ∧ ∀ j, j < 3 → Two ((T.getD i []).getD j [])

set_option maxHeartbeats 8000000 in
set_option maxRecDepth 100000 in
theorem table_any (v : Value) (w : World) (h : RawT w w.heap.size v) :
    Calls Tryd.prog 21 #[v] w fun e w' => ∃ v' T, e = .returned v' ∧ TwoT T ∧ Table w' w'.heap.size v' T ∧ Below w.heap.size w w' := by
  obtain ⟨i1, hi, hz0, hz1, hz2⟩ := info_parts infoPoly
  obtain ⟨i2, hj, hy0, hy1, hy2⟩ := info_parts infoRow
  obtain ⟨xs, ⟨a, cap, rfl, g⟩, hxl, hX⟩ := h
  have hxl' : xs.length ≤ 9223372036854775807 := hxl
  have HG : Hid (0 < xs.length → ∃ b off, a = some ⟨b, off, none⟩ ∧ b < w.heap.size ∧ ∀ i, i < xs.length → w.cell? ⟨b, off + i, none⟩ = some (xs.getD i (.bool false))) := g
  have HX : Hid (∀ i, i < xs.length → RawRow w w.heap.size (xs.getD i (.bool false))) := hX
  clear g hX hxl
  go_enter Tryd.func21, Tryd.ntmps21
  go_wp2
  go_loopw [3, 4] (fun vc i wr => ∃ (r : Nat) (zs : List Value) (T : List (List (List (Int × Int)))), r ≤ 3 ∧ i = .int .i64 r ∧ zs.length = r ∧ T.length = r ∧ wr.ownsRow w.heap.size 44 1 vc zs.length zs ∧
      Hid (∀ i, i < r → RowOwn wr w.heap.size (zs.getD i (.bool false)) (T.getD i [])) ∧ Hid (∀ i, i < r → (T.getD i []).length = 3 ∧ ∀ j, j < 3 → Two ((T.getD i []).getD j [])) ∧ Below w.heap.size w wr) (fun _ i _ => 3 - (intOf i).toNat)
  case atStart => exact ⟨0, [], [], Nat.zero_le _, rfl, rfl, rfl, World.ownsRow_nil _ _ _ _, fun i hi => absurd hi (Nat.not_lt_zero _), fun i hi => absurd hi (Nat.not_lt_zero _), Below.refl _ _⟩
  case round =>
    rename World => W1
    obtain ⟨r, zs, T, hrn, rfl, hzl, hTl, hown, hrows, hfin, hb⟩ := hrel
    by_cases hlt : r < 3
    · have hszW := hb.size
      have HOW : Hid (W1.ownsRow w.heap.size 44 1 _ zs.length zs) := hown
      have HRW : Hid (∀ i, i < r → RowOwn W1 w.heap.size (zs.getD i (.bool false)) (T.getD i [])) := hrows
      have HBW : Hid (Below w.heap.size w W1) := hb
      clear hown hrows
      have hdr : decide ((r : Int) < 3) = true := by simp; omega
      go_wp2
      go_loopw [5, 6] (fun vr i ws => ∃ (c : Nat) (ys : List Value) (R : List (List (Int × Int))), c ≤ 3 ∧ i = .int .i64 c ∧ ys.length = c ∧ R.length = c ∧ ws.ownsRow W1.heap.size 22 1 vr ys.length ys ∧
          Hid (∀ j, j < c → ws.ownsRow W1.heap.size 36 2 (ys.getD j (.bool false)) (R.getD j []).length (flat (R.getD j []))) ∧ Hid (∀ j, j < c → Two (R.getD j [])) ∧ Below W1.heap.size W1 ws) (fun _ i _ => 3 - (intOf i).toNat)
      case atStart => exact ⟨0, [], [], Nat.zero_le _, rfl, rfl, rfl, World.ownsRow_nil _ _ _ _, fun i hi => absurd hi (Nat.not_lt_zero _), fun i hi => absurd hi (Nat.not_lt_zero _), Below.refl _ _⟩
      case round =>
        clear hb
        rename World => W2
        obtain ⟨c, ys, R, hcn, rfl, hyl, hRl, hown, hpol, hfr, hb⟩ := hrel
        have hszX := hb.size
        have HB2 : Hid (Below w.heap.size w W2) := HBW.out.trans (hb.mono hszW)
        by_cases hcl : c < 3
        · have HOR : Hid (W2.ownsRow W1.heap.size 22 1 _ ys.length ys) := hown
          have HPL : Hid (∀ j, j < c → W2.ownsRow W1.heap.size 36 2 (ys.getD j (.bool false)) (R.getD j []).length (flat (R.getD j []))) := hpol
          have HFR : Hid (∀ j, j < c → Two (R.getD j [])) := hfr
          have HBI : Hid (Below W1.heap.size W1 W2) := hb
          clear hown hpol hfr hb
          obtain ⟨q, hq⟩ : ∃ q : Nat, q = r * 3 + c := ⟨_, rfl⟩
          have hqi : (r : Int) * 3 + (c : Int) = (q : Int) := by omega
          have HQE : Hid (q = r * 3 + c) := hq
          clear hq
          have hdc : decide ((c : Int) < 3) = true := by simp; omega
          by_cases hin : q < xs.length
          · obtain ⟨b, off, rfl, hbw, hc⟩ := HG.out (by omega)
            have c0 := bcell HB2.out hbw (hc q hin)
            have hbr : b < W2.heap.size := by omega
            have HQ : Hid (RawRow W2 W2.heap.size (xs.getD q (.bool false))) := ((HX.out q hin).on HB2.out).mono HB2.out.size
            clear hc
            generalize xs.getD q (.bool false) = rv at c0 HQ
            go_wp2_with (go_at_call 15; refine (small_any rv _ HQ.out).mono ?_; rintro e9 w7 ⟨v7, l0, rfl, hown7, hfin7, hb7⟩; refine Hid.out ?_)
            refine Lib.hid ?_
            clear c0
            by_cases hlen : 2 < l0.length
            · obtain ⟨a9, c9, rfl⟩ := own_capS hown7
              have hcap9 : l0.length ≤ c9 ∧ c9 ≤ 9223372036854775807 := by
                rcases hown7.2 with ⟨h1, h2⟩ | ⟨g, cap', cur, h1, h2, h3, h4, h5, h6⟩
                · omega
                · injection h1 with e1 e2 e3
                  unfold maxLen at h5
                  omega
              have hlen9 := hfin7.len (by omega)
              have hcut := own_cut hown7 (k := 2) (by omega) (by omega)
              rw [flat_take l0 2] at hcut
              have hfin8 := fine_take hfin7 2
              obtain ⟨t0, t1, rest, rfl⟩ : ∃ t0 t1 rest, l0 = t0 :: t1 :: rest := by
                match l0, hlen with
                | t0 :: t1 :: rest, _ => exact ⟨t0, t1, rest, rfl⟩
              have hl2 : ([t0, t1] : List (Int × Int)).length ≤ 2 := Nat.le_refl _
              obtain ⟨nn, hnn⟩ : ∃ nn, (t0 :: t1 :: rest).length = nn := ⟨_, rfl⟩
              rw [hnn] at hlen hcap9 hlen9 ⊢
              clear hown7 hfin7 hnn
              have hown7 : w7.ownsRow W2.heap.size 36 2 (.slice a9 2 c9) 2 (flat [t0, t1]) := hcut
              have hfin7 : Fine [t0, t1] 4 9 := hfin8
              have hd2 : decide (2 < (nn : Int)) = true := by simp; omega
              clear hcut hfin8
              have hnx7 := hb7.size
              have HF7 : Hid (Fine ([t0, t1]) 4 9) := hfin7
              have HB7 : Hid (Below W2.heap.size W2 w7) := hb7
              clear hfin7 hb7
              go_wp2
              go_loopw [8] (fun i ws => ∃ (k : Nat) (m : List (Int × Int)), k ≤ 2 ∧ i = .int .i64 k ∧ m.length = 2 ∧ ws.ownsRow W2.heap.size 36 2 (.slice a9 2 c9) 2 (flat m) ∧ Hid (FixTo ([t0, t1]) m k) ∧ Below W2.heap.size W2 ws) (fun i _ => 2 - (intOf i).toNat)
              case atStart => exact ⟨0, ([t0, t1]), Nat.zero_le _, rfl, rfl, hown7, fix_start ([t0, t1]), HB7.out⟩
              case round =>
                clear hown7
                rename World => W3
                obtain ⟨k, m, hk, rfl, hml, hown, hfx, hb⟩ := hrel
                have hszY := hb.size
                by_cases hkl : k < 2
                · obtain ⟨g, rfl⟩ : ∃ g, a9 = some ⟨g, 0, none⟩ := by
                    rcases hown.2 with ⟨h1, h2⟩ | ⟨g, cap', cur, h1, _⟩
                    · omega
                    · injection h1 with e1
                      exact ⟨g, e1⟩
                  have hgl := (hown.lt g rfl).2
                  have c0 : W3.cell? ⟨g, k * 2 + 1, none⟩ = some (.int .i64 (m.getD k (0, 0)).2) := by rw [hown.cellAt (k * 2 + 1) (by omega)]; exact flat_cellC m k (by omega)
                  have hrst : (m.getD k (0, 0)).2 = (([t0, t1] : List (Int × Int)).getD k (0, 0)).2 := hfx.out.rest k (Nat.le_refl _) hkl
                  have hbd := HF7.out.2 _ (getD_mem ([t0, t1]) k (0, 0) hkl)
                  rw [← hrst] at hbd
                  have f0 := hown.frozenAt (k * 2 + 1)
                  have HST : Hid (∀ u : Int, (W3.setCell ⟨g, k * 2 + 1, none⟩ (.int .i64 u)).ownsRow W2.heap.size 36 2 (.slice (some ⟨g, 0, none⟩) 2 c9) 2 (flat (setC m k u)) ∧ W3.grownBy (W3.setCell ⟨g, k * 2 + 1, none⟩ (.int .i64 u)) (some g)) := fun u => by
                    have := hown.stored (k * 2 + 1) (.int .i64 u)
                    rw [flat_setC m k u (by omega)] at this
                    exact this
                  have hglow := (hown.lt g rfl).1
                  generalize (m.getD k (0, 0)).2 = cc at c0 hbd hrst
                  have ht3 := tmod3 cc
                  have hw3 : IntKind.i64.wrap (cc.tmod 3) = cc.tmod 3 := IntWalk.i64_in _ (by omega)
                  obtain ⟨d, hd⟩ : ∃ d, cc.tmod 3 = d := ⟨_, rfl⟩
                  rw [hd] at ht3 hw3
                  clear hown hrst
                  by_cases hd0 : d = 0
                  · subst hd0
                    have h1 := HST.out 0
                    have c2 : (W3.setCell ⟨g, k * 2 + 1, none⟩ (.int .i64 0)).cell? ⟨g, k * 2 + 1, none⟩ = some (.int .i64 0) := by
                      rw [h1.1.cellAt (k * 2 + 1) (by omega), flat_cellC (setC m k 0) k (by rw [setC_length]; omega), setC_get m k k 0 (by omega), if_pos rfl]
                    have f2 := h1.1.frozenAt (k * 2 + 1)
                    have h2 := h1.1.stored (k * 2 + 1) (.int .i64 1)
                    rw [flat_setC (setC m k 0) k 1 (by rw [setC_length]; omega), setC_setC m k 0 1 (by omega)] at h2
                    have HH2 : Hid (((W3.setCell ⟨g, k * 2 + 1, none⟩ (.int .i64 0)).setCell ⟨g, k * 2 + 1, none⟩ (.int .i64 1)).ownsRow W2.heap.size 36 2 (.slice (some ⟨g, 0, none⟩) 2 c9) 2 (flat (setC m k 1))) := h2.1
                    have HBB : Hid (Below W2.heap.size W2 ((W3.setCell ⟨g, k * 2 + 1, none⟩ (.int .i64 0)).setCell ⟨g, k * 2 + 1, none⟩ (.int .i64 1))) := (hb.grown h1.2 hszY (fun j hj => by cases hj; exact hglow)).grown h2.2 (Nat.le_trans hszY h1.2.size) (fun j hj => by cases hj; exact hglow)
                    clear h1 h2
                    go_wp2
                    go_roundw
                    case rel => exact ⟨k + 1, setC m k 1, by omega, by go_num, by rw [setC_length]; exact hml, HH2.out, fix_next hfx.out hkl 1 (by decide) (by decide) (by decide), HBB.out⟩
                    case measure => simp only [intOf]; omega
                  · have h1 := HST.out d
                    have c2 : (W3.setCell ⟨g, k * 2 + 1, none⟩ (.int .i64 d)).cell? ⟨g, k * 2 + 1, none⟩ = some (.int .i64 d) := by
                      rw [h1.1.cellAt (k * 2 + 1) (by omega), flat_cellC (setC m k d) k (by rw [setC_length]; omega), setC_get m k k d (by omega), if_pos rfl]
                    have hdz : (d == 0) = false := by rw [beq_eq_false_iff_ne]; exact hd0
                    have HH2 : Hid ((W3.setCell ⟨g, k * 2 + 1, none⟩ (.int .i64 d)).ownsRow W2.heap.size 36 2 (.slice (some ⟨g, 0, none⟩) 2 c9) 2 (flat (setC m k d))) := h1.1
                    have HBB : Hid (Below W2.heap.size W2 (W3.setCell ⟨g, k * 2 + 1, none⟩ (.int .i64 d))) := hb.grown h1.2 hszY (fun j hj => by cases hj; exact hglow)
                    clear h1
                    go_wp2
                    go_roundw
                    case rel => exact ⟨k + 1, setC m k d, by omega, by go_num, by rw [setC_length]; exact hml, HH2.out, fix_next hfx.out hkl d hd0 ht3.1 ht3.2, HBB.out⟩
                    case measure => simp only [intOf]; omega
                · obtain rfl : k = 2 := by omega
                  have hend := fix_end hfx.out HF7.out hl2
                  have hgx : W2.grownBy W3 none := grown_below hb none
                  have hown3 := own_any HOR.out hgx
                  have HPO : Hid (∀ j, j < c → W3.ownsRow W1.heap.size 36 2 (ys.getD j (.bool false)) (R.getD j []).length (flat (R.getD j []))) := fun j hj => own_any (HPL.out j hj) hgx
                  have HO7 : Hid (W3.ownsRow W1.heap.size 36 2 (.slice a9 2 c9) m.length (flat m)) := (by rw [hml]; exact own_low hown hszX : W3.ownsRow W1.heap.size 36 2 (.slice a9 2 c9) m.length (flat m))
                  have HON : Hid (∀ u ∈ [Value.slice a9 2 c9], u.oneCell' = true) := own_oneS hown
                  have HBX : Hid (Below W1.heap.size W1 W3) := HBI.out.trans (hb.mono hszX)
                  have HEN : Hid (Fine m 4 2 ∧ m.length ≤ 2) := hend
                  clear hown hb hgx hend
                  go_wp2_with (first
                    | (at_builtin; refine wpList_append_own _ rfl _ _ 44 rfl W1.heap.size 22 i1 (.slice none 0 0) 1 24 Tryd.underlying44 hi hz0 hz1 hz2 rfl (by decide) _ _ _ rfl (hown3.alloc _) ⟨W3.heap.size, 0, none⟩ 1 1 [Value.slice a9 2 c9] rfl rfl (new_cell1 _ _ _) HON.out (by unfold maxLen; omega) (by omega) (by simp; omega) ?_; intro v8 w8 hown8 hg8 _; go_frame))
                  go_roundw
                  case rel =>
                    refine ⟨c + 1, ys ++ [Value.slice a9 2 c9], R ++ [m], by omega, by go_num, by simp; omega, by simp; omega, by rw [List.length_append]; exact hown8, fun j hj => ?_, fun j hj => ?_, (HBX.out.alloc (by omega) _).grown hg8 (by simp; omega) (fun q hq => (hown3.lt q hq).1)⟩
                    · by_cases hjk : j < c
                      · rw [getD_left ys _ j (by omega), getL_left R m j (by omega)]
                        have h1 := (HPO.out j hjk).alloc (.cells #[Value.slice a9 2 c9] 22)
                        exact h1.kept hg8 (own_ne h1 (hown3.alloc _) (by decide))
                      · have ej : j = ys.length := by omega
                        have ej2 : j = R.length := by omega
                        have h1 := HO7.out.alloc (.cells #[Value.slice a9 2 c9] 22)
                        have e2 : (ys ++ [Value.slice a9 2 c9]).getD j (.bool false) = Value.slice a9 2 c9 := by rw [ej]; exact getD_last ys _
                        have e3 : (R ++ [m]).getD j [] = m := by rw [ej2]; exact getL_last R m
                        rw [e2, e3]
                        exact h1.kept hg8 (own_ne h1 (hown3.alloc _) (by decide))
                    · by_cases hjk : j < c
                      · rw [getL_left R m j (by omega)]; exact HFR.out j hjk
                      · have ej2 : j = R.length := by omega
                        have e3 : (R ++ [m]).getD j [] = m := by rw [ej2]; exact getL_last R m
                        rw [e3]; exact HEN.out
                  case measure => simp only [intOf]; omega
            · have hl2 : l0.length ≤ 2 := by omega
              obtain ⟨l, hl⟩ : ∃ l, l = l0 := ⟨_, rfl⟩
              subst hl
              have hnx7 := hb7.size
              obtain ⟨a7, c7, rfl⟩ := own_capS hown7
              have HF7 : Hid (Fine l 4 9) := hfin7
              have HB7 : Hid (Below W2.heap.size W2 w7) := hb7
              clear hfin7 hb7
              go_wp2
              go_loopw [8] (fun i ws => ∃ (k : Nat) (m : List (Int × Int)), k ≤ l.length ∧ i = .int .i64 k ∧ m.length = l.length ∧ ws.ownsRow W2.heap.size 36 2 (.slice a7 l.length c7) l.length (flat m) ∧ Hid (FixTo l m k) ∧ Below W2.heap.size W2 ws) (fun i _ => l.length - (intOf i).toNat)
              case atStart => exact ⟨0, l, Nat.zero_le _, rfl, rfl, hown7, fix_start l, HB7.out⟩
              case round =>
                clear hown7
                rename World => W3
                obtain ⟨k, m, hk, rfl, hml, hown, hfx, hb⟩ := hrel
                have hszY := hb.size
                by_cases hkl : k < l.length
                · obtain ⟨g, rfl⟩ : ∃ g, a7 = some ⟨g, 0, none⟩ := by
                    rcases hown.2 with ⟨h1, h2⟩ | ⟨g, cap', cur, h1, _⟩
                    · omega
                    · injection h1 with e1
                      exact ⟨g, e1⟩
                  have hgl := (hown.lt g rfl).2
                  have c0 : W3.cell? ⟨g, k * 2 + 1, none⟩ = some (.int .i64 (m.getD k (0, 0)).2) := by rw [hown.cellAt (k * 2 + 1) (by omega)]; exact flat_cellC m k (by omega)
                  have hrst : (m.getD k (0, 0)).2 = (l.getD k (0, 0)).2 := hfx.out.rest k (Nat.le_refl _) hkl
                  have hbd := HF7.out.2 _ (getD_mem l k (0, 0) hkl)
                  rw [← hrst] at hbd
                  have f0 := hown.frozenAt (k * 2 + 1)
                  have HST : Hid (∀ u : Int, (W3.setCell ⟨g, k * 2 + 1, none⟩ (.int .i64 u)).ownsRow W2.heap.size 36 2 (.slice (some ⟨g, 0, none⟩) l.length c7) l.length (flat (setC m k u)) ∧ W3.grownBy (W3.setCell ⟨g, k * 2 + 1, none⟩ (.int .i64 u)) (some g)) := fun u => by
                    have := hown.stored (k * 2 + 1) (.int .i64 u)
                    rw [flat_setC m k u (by omega)] at this
                    exact this
                  have hglow := (hown.lt g rfl).1
                  generalize (m.getD k (0, 0)).2 = cc at c0 hbd hrst
                  have ht3 := tmod3 cc
                  have hw3 : IntKind.i64.wrap (cc.tmod 3) = cc.tmod 3 := IntWalk.i64_in _ (by omega)
                  obtain ⟨d, hd⟩ : ∃ d, cc.tmod 3 = d := ⟨_, rfl⟩
                  rw [hd] at ht3 hw3
                  clear hown hrst
                  by_cases hd0 : d = 0
                  · subst hd0
                    have h1 := HST.out 0
                    have c2 : (W3.setCell ⟨g, k * 2 + 1, none⟩ (.int .i64 0)).cell? ⟨g, k * 2 + 1, none⟩ = some (.int .i64 0) := by
                      rw [h1.1.cellAt (k * 2 + 1) (by omega), flat_cellC (setC m k 0) k (by rw [setC_length]; omega), setC_get m k k 0 (by omega), if_pos rfl]
                    have f2 := h1.1.frozenAt (k * 2 + 1)
                    have h2 := h1.1.stored (k * 2 + 1) (.int .i64 1)
                    rw [flat_setC (setC m k 0) k 1 (by rw [setC_length]; omega), setC_setC m k 0 1 (by omega)] at h2
                    have HH2 : Hid (((W3.setCell ⟨g, k * 2 + 1, none⟩ (.int .i64 0)).setCell ⟨g, k * 2 + 1, none⟩ (.int .i64 1)).ownsRow W2.heap.size 36 2 (.slice (some ⟨g, 0, none⟩) l.length c7) l.length (flat (setC m k 1))) := h2.1
                    have HBB : Hid (Below W2.heap.size W2 ((W3.setCell ⟨g, k * 2 + 1, none⟩ (.int .i64 0)).setCell ⟨g, k * 2 + 1, none⟩ (.int .i64 1))) := (hb.grown h1.2 hszY (fun j hj => by cases hj; exact hglow)).grown h2.2 (Nat.le_trans hszY h1.2.size) (fun j hj => by cases hj; exact hglow)
                    clear h1 h2
                    go_wp2
                    go_roundw
                    case rel => exact ⟨k + 1, setC m k 1, by omega, by go_num, by rw [setC_length]; exact hml, HH2.out, fix_next hfx.out hkl 1 (by decide) (by decide) (by decide), HBB.out⟩
                    case measure => simp only [intOf]; omega
                  · have h1 := HST.out d
                    have c2 : (W3.setCell ⟨g, k * 2 + 1, none⟩ (.int .i64 d)).cell? ⟨g, k * 2 + 1, none⟩ = some (.int .i64 d) := by
                      rw [h1.1.cellAt (k * 2 + 1) (by omega), flat_cellC (setC m k d) k (by rw [setC_length]; omega), setC_get m k k d (by omega), if_pos rfl]
                    have hdz : (d == 0) = false := by rw [beq_eq_false_iff_ne]; exact hd0
                    have HH2 : Hid ((W3.setCell ⟨g, k * 2 + 1, none⟩ (.int .i64 d)).ownsRow W2.heap.size 36 2 (.slice (some ⟨g, 0, none⟩) l.length c7) l.length (flat (setC m k d))) := h1.1
                    have HBB : Hid (Below W2.heap.size W2 (W3.setCell ⟨g, k * 2 + 1, none⟩ (.int .i64 d))) := hb.grown h1.2 hszY (fun j hj => by cases hj; exact hglow)
                    clear h1
                    go_wp2
                    go_roundw
                    case rel => exact ⟨k + 1, setC m k d, by omega, by go_num, by rw [setC_length]; exact hml, HH2.out, fix_next hfx.out hkl d hd0 ht3.1 ht3.2, HBB.out⟩
                    case measure => simp only [intOf]; omega
                · obtain rfl : k = l.length := by omega
                  have hend := fix_end hfx.out HF7.out hl2
                  have hgx : W2.grownBy W3 none := grown_below hb none
                  have hown3 := own_any HOR.out hgx
                  have HPO : Hid (∀ j, j < c → W3.ownsRow W1.heap.size 36 2 (ys.getD j (.bool false)) (R.getD j []).length (flat (R.getD j []))) := fun j hj => own_any (HPL.out j hj) hgx
                  have HO7 : Hid (W3.ownsRow W1.heap.size 36 2 (.slice a7 l.length c7) m.length (flat m)) := (by rw [hml]; exact own_low hown hszX : W3.ownsRow W1.heap.size 36 2 (.slice a7 l.length c7) m.length (flat m))
                  have HON : Hid (∀ u ∈ [Value.slice a7 l.length c7], u.oneCell' = true) := own_oneS hown
                  have HBX : Hid (Below W1.heap.size W1 W3) := HBI.out.trans (hb.mono hszX)
                  have HEN : Hid (Fine m 4 2 ∧ m.length ≤ 2) := hend
                  clear hown hb hgx hend
                  go_wp2_with (first
                    | (at_builtin; refine wpList_append_own _ rfl _ _ 44 rfl W1.heap.size 22 i1 (.slice none 0 0) 1 24 Tryd.underlying44 hi hz0 hz1 hz2 rfl (by decide) _ _ _ rfl (hown3.alloc _) ⟨W3.heap.size, 0, none⟩ 1 1 [Value.slice a7 l.length c7] rfl rfl (new_cell1 _ _ _) HON.out (by unfold maxLen; omega) (by omega) (by simp; omega) ?_; intro v8 w8 hown8 hg8 _; go_frame))
                  go_roundw
                  case rel =>
                    refine ⟨c + 1, ys ++ [Value.slice a7 l.length c7], R ++ [m], by omega, by go_num, by simp; omega, by simp; omega, by rw [List.length_append]; exact hown8, fun j hj => ?_, fun j hj => ?_, (HBX.out.alloc (by omega) _).grown hg8 (by simp; omega) (fun q hq => (hown3.lt q hq).1)⟩
                    · by_cases hjk : j < c
                      · rw [getD_left ys _ j (by omega), getL_left R m j (by omega)]
                        have h1 := (HPO.out j hjk).alloc (.cells #[Value.slice a7 l.length c7] 22)
                        exact h1.kept hg8 (own_ne h1 (hown3.alloc _) (by decide))
                      · have ej : j = ys.length := by omega
                        have ej2 : j = R.length := by omega
                        have h1 := HO7.out.alloc (.cells #[Value.slice a7 l.length c7] 22)
                        have e2 : (ys ++ [Value.slice a7 l.length c7]).getD j (.bool false) = Value.slice a7 l.length c7 := by rw [ej]; exact getD_last ys _
                        have e3 : (R ++ [m]).getD j [] = m := by rw [ej2]; exact getL_last R m
                        rw [e2, e3]
                        exact h1.kept hg8 (own_ne h1 (hown3.alloc _) (by decide))
                    · by_cases hjk : j < c
                      · rw [getL_left R m j (by omega)]; exact HFR.out j hjk
                      · have ej2 : j = R.length := by omega
                        have e3 : (R ++ [m]).getD j [] = m := by rw [ej2]; exact getL_last R m
                        rw [e3]; exact HEN.out
                  case measure => simp only [intOf]; omega
          · have hown7 : W2.ownsRow W2.heap.size 36 2 (.slice none 0 0) 0 (flat []) := World.ownsRow_nil _ _ _ _
            have hfin7 : Fine [] 4 9 := small_fine (k := 0) ⟨List.Pairwise.nil, fun t h => by cases h⟩ (by omega)
            have hb7 : Below W2.heap.size W2 W2 := Below.refl _ _
            have hl2 : ([] : List (Int × Int)).length ≤ 2 := by simp
            have hdq : decide ((q : Int) < (xs.length : Int)) = false := by simp; omega
            have hnx7 := hb7.size
            have HF7 : Hid (Fine ([] : List (Int × Int)) 4 9) := hfin7
            have HB7 : Hid (Below W2.heap.size W2 W2) := hb7
            clear hfin7 hb7
            go_wp2
            go_loopw [8] (fun i ws => ∃ (k : Nat) (m : List (Int × Int)), k ≤ 0 ∧ i = .int .i64 k ∧ m.length = 0 ∧ ws.ownsRow W2.heap.size 36 2 (.slice none 0 0) 0 (flat m) ∧ Hid (FixTo ([] : List (Int × Int)) m k) ∧ Below W2.heap.size W2 ws) (fun i _ => 0 - (intOf i).toNat)
            case atStart => exact ⟨0, ([] : List (Int × Int)), Nat.zero_le _, rfl, rfl, hown7, fix_start ([] : List (Int × Int)), HB7.out⟩
            case round =>
              clear hown7
              rename World => W3
              obtain ⟨k, m, hk, rfl, hml, hown, hfx, hb⟩ := hrel
              have hszY := hb.size
              by_cases hkl : k < 0
              · exact absurd hkl (Nat.not_lt_zero _)
              · obtain rfl : k = 0 := by omega
                have hend := fix_end hfx.out HF7.out hl2
                have hgx : W2.grownBy W3 none := grown_below hb none
                have hown3 := own_any HOR.out hgx
                have HPO : Hid (∀ j, j < c → W3.ownsRow W1.heap.size 36 2 (ys.getD j (.bool false)) (R.getD j []).length (flat (R.getD j []))) := fun j hj => own_any (HPL.out j hj) hgx
                have HO7 : Hid (W3.ownsRow W1.heap.size 36 2 (.slice none 0 0) m.length (flat m)) := (by rw [hml]; exact own_low hown hszX : W3.ownsRow W1.heap.size 36 2 (.slice none 0 0) m.length (flat m))
                have HON : Hid (∀ u ∈ [Value.slice none 0 0], u.oneCell' = true) := own_oneS hown
                have HBX : Hid (Below W1.heap.size W1 W3) := HBI.out.trans (hb.mono hszX)
                have HEN : Hid (Fine m 4 2 ∧ m.length ≤ 2) := hend
                clear hown hb hgx hend
                go_wp2_with (first
                  | (at_builtin; refine wpList_append_own _ rfl _ _ 44 rfl W1.heap.size 22 i1 (.slice none 0 0) 1 24 Tryd.underlying44 hi hz0 hz1 hz2 rfl (by decide) _ _ _ rfl (hown3.alloc _) ⟨W3.heap.size, 0, none⟩ 1 1 [Value.slice none 0 0] rfl rfl (new_cell1 _ _ _) HON.out (by unfold maxLen; omega) (by omega) (by simp; omega) ?_; intro v8 w8 hown8 hg8 _; go_frame))
                go_roundw
                case rel =>
                  refine ⟨c + 1, ys ++ [Value.slice none 0 0], R ++ [m], by omega, by go_num, by simp; omega, by simp; omega, by rw [List.length_append]; exact hown8, fun j hj => ?_, fun j hj => ?_, (HBX.out.alloc (by omega) _).grown hg8 (by simp; omega) (fun q hq => (hown3.lt q hq).1)⟩
                  · by_cases hjk : j < c
                    · rw [getD_left ys _ j (by omega), getL_left R m j (by omega)]
                      have h1 := (HPO.out j hjk).alloc (.cells #[Value.slice none 0 0] 22)
                      exact h1.kept hg8 (own_ne h1 (hown3.alloc _) (by decide))
                    · have ej : j = ys.length := by omega
                      have ej2 : j = R.length := by omega
                      have h1 := HO7.out.alloc (.cells #[Value.slice none 0 0] 22)
                      have e2 : (ys ++ [Value.slice none 0 0]).getD j (.bool false) = Value.slice none 0 0 := by rw [ej]; exact getD_last ys _
                      have e3 : (R ++ [m]).getD j [] = m := by rw [ej2]; exact getL_last R m
                      rw [e2, e3]
                      exact h1.kept hg8 (own_ne h1 (hown3.alloc _) (by decide))
                  · by_cases hjk : j < c
                    · rw [getL_left R m j (by omega)]; exact HFR.out j hjk
                    · have ej2 : j = R.length := by omega
                      have e3 : (R ++ [m]).getD j [] = m := by rw [ej2]; exact getL_last R m
                      rw [e3]; exact HEN.out
                case measure => simp only [intOf]; omega
        · obtain rfl : c = 3 := by omega
          rw [hyl] at hown
          obtain ⟨a7, c7, rfl⟩ := own_capS hown
          have hgx : W1.grownBy W2 none := grown_below hb none
          have hown3 := own_any HOW.out hgx
          have HR3 : Hid (∀ i, i < r → RowOwn W2 w.heap.size (zs.getD i (.bool false)) (T.getD i [])) := fun i hi => (HRW.out i hi).any hgx
          have HRO : Hid (RowOwn W2 w.heap.size (.slice a7 3 c7) R) := RowOwn.low ⟨ys, by omega, by rw [hyl]; exact hown, fun j hj => hpol.out j (by omega)⟩ hszW
          have HON : Hid (∀ u ∈ [Value.slice a7 3 c7], u.oneCell' = true) := own_oneS hown
          have HFR : Hid (∀ j, j < 3 → Two (R.getD j [])) := hfr
          clear hown hpol hgx hfr
          go_wp2_with (first
            | (at_builtin; refine wpList_append_own _ rfl _ _ 43 rfl w.heap.size 44 i2 (.slice none 0 0) 1 24 Tryd.underlying43 hj hy0 hy1 hy2 rfl (by decide) _ _ _ rfl (hown3.alloc _) ⟨W2.heap.size, 0, none⟩ 1 1 [Value.slice a7 3 c7] rfl rfl (new_cell1 _ _ _) HON.out (by unfold maxLen; omega) (by omega) (by simp; omega) ?_; intro v8 w8 hown8 hg8 _; go_frame))
          go_roundw
          case rel =>
            refine ⟨r + 1, zs ++ [Value.slice a7 3 c7], T ++ [R], by omega, by go_num, by simp; omega, by simp; omega, by rw [List.length_append]; exact hown8, fun j hj => ?_, fun j hj => ?_, (HB2.out.alloc (by omega) _).grown hg8 (by simp; omega) (fun q hq => (hown3.lt q hq).1)⟩
            · have hga : W2.grownBy (W2.alloc (.cells #[Value.slice a7 3 c7] 44)) none := World.grownBy_alloc _ _ _
              by_cases hjk : j < r
              · rw [getD_left zs _ j (by omega), getL_left T R j (by omega)]
                exact ((HR3.out j hjk).any hga).other (hown3.alloc _) hg8
              · have ej : j = zs.length := by omega
                have ej2 : j = T.length := by omega
                have e2 : (zs ++ [Value.slice a7 3 c7]).getD j (.bool false) = Value.slice a7 3 c7 := by rw [ej]; exact getD_last zs _
                have e3 : (T ++ [R]).getD j [] = R := by rw [ej2]; exact getL_last T R
                rw [e2, e3]
                exact (HRO.out.any hga).other (hown3.alloc _) hg8
            · by_cases hjk : j < r
              · rw [getL_left T R j (by omega)]; exact hfin.out j hjk
              · have ej2 : j = T.length := by omega
                have e3 : (T ++ [R]).getD j [] = R := by rw [ej2]; exact getL_last T R
                rw [e3]; exact ⟨hRl, HFR.out⟩
          case measure => simp only [intOf]; omega
    · obtain rfl : r = 3 := by omega
      go_wp2
      go_ret
      exact ⟨_, T, rfl, ⟨hTl, hfin.out⟩, table_own (by omega) hown (fun i hi => hrows.out i (by omega)), hb⟩
end Go.Proofs.YthbhllomikfbhaaDoor.Poly
