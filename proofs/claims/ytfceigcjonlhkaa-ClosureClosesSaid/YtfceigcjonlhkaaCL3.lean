/- Braids closed: the walk of closure.rings. -/
import Derived.Test.YtfceigcjonlhkaaCL2
namespace Go.Proofs.Ytfceigcjonlhkaa
open Go.RowKit

/-- Seven flags as cells. -/
def flA (D : Nat → Bool) : Array Value := #[.bool (D 0), .bool (D 1), .bool (D 2), .bool (D 3), .bool (D 4), .bool (D 5), .bool (D 6)]
theorem flA_get (D : Nat → Bool) (x : Nat) (h : x < 7) : (flA D)[x]? = some (.bool (D x)) := by
  have : x = 0 ∨ x = 1 ∨ x = 2 ∨ x = 3 ∨ x = 4 ∨ x = 5 ∨ x = 6 := by omega
  rcases this with rfl | rfl | rfl | rfl | rfl | rfl | rfl <;> rfl
theorem flA_set (D : Nat → Bool) (x : Nat) (h : x < 7) : (flA D).setIfInBounds x (.bool true) = flA (upB D x) := by
  have : x = 0 ∨ x = 1 ∨ x = 2 ∨ x = 3 ∨ x = 4 ∨ x = 5 ∨ x = 6 := by omega
  rcases this with rfl | rfl | rfl | rfl | rfl | rfl | rfl <;> simp [flA, upB]
/-- Rings under way. -/
structure RnAt (w : World) (D : Nat → Bool) (L : List (List Nat)) (v : Value) (wr : World) : Prop where
  box : wr.heap[w.heap.size]? = some (.cells (flA D) 201 (0, 0))
  rows : NatsOwn wr (w.heap.size + 1) v L
  bel : Below w.heap.size w wr
theorem NatsOwn.slice {w : World} {B : Nat} {v : Value} {L : List (List Nat)} (h : NatsOwn w B v L) : ∃ a c, v = .slice a L.length c := by
  obtain ⟨ys, h1, h2, -⟩ := h
  obtain ⟨a, c, e⟩ := own_capS h2
  exact ⟨a, c, by rw [e, h1]⟩
/-- Rows whose outer slice has the cells ys: a row more. -/
theorem natsOwn_app {w w8 : World} {B m : Nat} {v v8 r : Value} {L : List (List Nat)} {R : List Nat} {ys : List Value} (h : NatsOwn w B v L) (hr : w.ownsRow B 3 1 r R.length (nats R)) (hl : ys.length = L.length) (hy : w.ownsRow B 53 1 v m ys) (hg : w.grownBy w8 v.ownBlock) (h8 : w8.ownsRow B 53 1 v8 (m + 1) (ys ++ [r])) (hm : L.length = m) : NatsOwn w8 B v8 (L ++ [R]) := by
  obtain ⟨zs, h1, h2, h3⟩ := h
  obtain rfl : m = zs.length := by omega
  obtain rfl : ys = zs := by
    apply List.ext_getElem?
    intro j
    by_cases hj : j < ys.length
    · rcases h2.2 with ⟨rfl, h0⟩ | ⟨g, cap, cur, rfl, _⟩
      · omega
      · have e1 := World.ownsRow.cellAt hy j (by omega)
        have e2 := World.ownsRow.cellAt h2 j (by omega)
        exact e1.symm.trans e2
    · rw [List.getElem?_eq_none (by omega), List.getElem?_eq_none (by omega)]
  refine ⟨ys ++ [r], by simp [h1], by rw [List.length_append, List.length_singleton]; exact h8, fun j hj => ?_⟩
  by_cases hjk : j < ys.length
  · have e1 : (L ++ [R]).getD j [] = L.getD j [] := by rw [List.getD_eq_getElem?_getD, List.getD_eq_getElem?_getD, List.getElem?_append_left (by omega)]
    rw [getD_left ys _ j hjk, e1]
    have h4 := h3 j (by omega)
    exact h4.kept hg (own_ne h4 h2 (by decide))
  · have ej : j = ys.length := by simp at hj; omega
    have e1 : (L ++ [R]).getD j [] = R := by rw [ej, h1]; simp [List.getD]
    have e2 : (ys ++ [r]).getD j (.bool false) = r := by rw [ej]; exact getD_last ys _
    rw [e1, e2]
    exact hr.kept hg (own_ne hr h2 (by decide))

set_option maxHeartbeats 8000000 in
set_option maxRecDepth 100000 in
theorem rings_any (a : Option Addr) (c n : Nat) (T : List Int) (E : Nat → Nat) (w : World) (hn : n ≤ 6) (hT : T.length = n) (hE : ∀ p, 1 ≤ p → p ≤ n → 1 ≤ E p ∧ E p ≤ n) (hTE : ∀ p, 1 ≤ p → p ≤ n → T.getD (p - 1) 0 = (E p : Int)) (h : RdAt w w.heap.size 1 (.slice a n c) n (intsV T)) :
    Calls Try.prog 122 #[.slice a n c] w fun e w' => ∃ v, e = .returned v ∧ NatsOwn w' w.heap.size v (rgs E n).2 ∧ Below w.heap.size w w' := by
  obtain ⟨i0, hi, hz0, hz1, hz2⟩ := info_parts infoInt
  obtain ⟨i1, hj, hy0, hy1, hy2⟩ := info_parts infoInts
  have HRD : Hid (RdAt w w.heap.size 1 (.slice a T.length c) T.length (intsV T)) := (by rw [hT]; exact h : RdAt w w.heap.size 1 (.slice a T.length c) T.length (intsV T))
  have HT : Hid (T.length = n) := hT
  have HE : Hid (∀ p, 1 ≤ p → p ≤ n → 1 ≤ E p ∧ E p ≤ n) := hE
  have HTE : Hid (∀ p, 1 ≤ p → p ≤ n → T.getD (p - 1) 0 = (E p : Int)) := hTE
  clear h hT hE hTE
  obtain ⟨Y, hY⟩ : ∃ Y, Y = w.alloc (.cells #[.bool false, .bool false, .bool false, .bool false, .bool false, .bool false, .bool false] 201) := ⟨_, rfl⟩
  have HY : Hid (Y = w.alloc (.cells #[.bool false, .bool false, .bool false, .bool false, .bool false, .bool false, .bool false] 201)) := hY
  have HR0 : Hid (RnAt w (rgs E 0).1 (rgs E 0).2 (.slice none 0 0) Y) := ⟨by rw [hY]; exact alloc_at rfl, ⟨[], rfl, World.ownsRow_nil _ _ _ _, fun j hj => absurd hj (Nat.not_lt_zero _)⟩, by rw [hY]; exact (Below.refl _ _).alloc (Nat.le_refl _) _⟩
  clear hY
  go_enter Try.func122, Try.ntmps122
  go_wp2
  rw [← HY.out]
  go_loopw [3, 5] (fun v3 v5 wr => ∃ (k n3 c3 : Nat) (a3 : Option Addr), k ≤ n ∧ n3 ≤ k ∧ v5 = .int .i64 ((k : Int) + 1) ∧ v3 = .slice a3 n3 c3 ∧ Hid ((rgs E k).2.length = n3) ∧ Hid (RnAt w (rgs E k).1 (rgs E k).2 (.slice a3 n3 c3) wr)) (fun _ v5 _ => n + 1 - (intOf v5).toNat)
  case atStart => exact ⟨0, 0, 0, none, Nat.zero_le _, Nat.le_refl _, rfl, rfl, rfl, HR0.out⟩
  case round =>
    clear HR0
    rename World => W1
    obtain ⟨k, n3, c3, a3, hkn, hn3, rfl, rfl, HN3, hK⟩ := hrel
    have hsW := hK.out.bel.size
    have hgW : w.heap.size < W1.heap.size := (Array.getElem?_eq_some_iff.1 hK.out.box).1
    by_cases hk : k < n
    · have hkI : (k : Int) + 1 ≤ (n : Int) := by omega
      go_wp2
      go_loopw [6, 7] (fun v6 v7 ws => ∃ (R : List Nat) (D' : Nat → Bool) (y f n6 c6 : Nat) (a6 : Option Addr), y < n ∧ n6 ≤ 7 ∧ v7 = .int .i64 ((y : Int) + 1) ∧ v6 = .slice a6 n6 c6 ∧ Hid (R.length = n6) ∧ Hid (RgS E n (rgs E k).1 (k + 1) R D' (y + 1) f) ∧ Hid (ws.heap[w.heap.size]? = some (.cells (flA D') 201 (0, 0))) ∧ Hid (ws.ownsRow W1.heap.size 3 1 (.slice a6 n6 c6) n6 (nats R)) ∧ Hid (W1.grownBy ws (some w.heap.size)) ∧ Hid (Below w.heap.size w ws)) (fun v6 _ _ => 8 - lenOf v6)
      case atStart => exact ⟨[], (rgs E k).1, k, 7, 0, 0, none, hk, by omega, rfl, rfl, rfl, RgS.start E n _ (k + 1) (by omega) (by omega), hK.out.box, World.ownsRow_nil _ _ _ _, World.grownBy.refl _ _, hK.out.bel⟩
      case round =>
        rename World => W2
        obtain ⟨R, D', y, f, n6, c6, a6, hyn, hn6, rfl, rfl, HN6, HRG, hbx, hO, hg, hb⟩ := hrel
        have e0 : W2.cell? ⟨w.heap.size, y + 1, none⟩ = some (.bool (D' (y + 1))) := block_cell hbx.out (flA_get D' (y + 1) (by omega))
        have f0 : W2.frozen? ⟨w.heap.size, y + 1, none⟩ = false := block_frozen hbx.out
        have hy6 : (y : Int) + 1 < 7 := by omega
        have hs2 := hb.out.size
        have hg2 : w.heap.size < W2.heap.size := (Array.getElem?_eq_some_iff.1 hbx.out).1
        cases hd : D' (y + 1) with
        | false =>
          rw [hd] at e0
          obtain ⟨b, off, ea, hlt, hc⟩ := HRD.out.intAt y (by rw [HT.out]; exact hyn)
          have hE2 := HE.out (y + 1) (by omega) (by omega)
          have hTE2 := HTE.out (y + 1) (by omega) (by omega)
          rw [Nat.add_sub_cancel] at hTE2
          rw [hTE2] at hc
          obtain ⟨z, hz⟩ : ∃ z, E (y + 1) = z + 1 := ⟨E (y + 1) - 1, by omega⟩
          obtain ⟨f', -, HS'⟩ := HRG.out.step hn HE.out hd
          rw [hz] at hc hE2 HS'
          have HRN : Hid (RgS E n (rgs E k).1 (k + 1) (R ++ [y + 1]) (upB D' (y + 1)) (z + 1) f') := HS'
          have hL7 : n6 + 1 ≤ 7 := by have := HRN.out.len; rw [List.length_append, HN6.out] at this; simpa using this
          have hzn : z < n := by omega
          have hc2 : w.cell? ⟨b, off + y, none⟩ = some (.int .i64 ((z : Int) + 1)) := hc
          obtain ⟨X, hX⟩ : ∃ X, X = W2.setCell ⟨w.heap.size, y + 1, none⟩ (.bool true) := ⟨_, rfl⟩
          have HX : Hid (X = W2.setCell ⟨w.heap.size, y + 1, none⟩ (.bool true)) := hX
          have hst := set_grown W2 w.heap.size (y + 1) (.bool true)
          have HBX : Hid (X.heap[w.heap.size]? = some (.cells (flA (upB D' (y + 1))) 201 (0, 0))) := (by rw [hX, ← flA_set D' (y + 1) (by omega)]; exact set_block hbx.out : X.heap[w.heap.size]? = some (.cells (flA (upB D' (y + 1))) 201 (0, 0)))
          rw [← hX] at hst
          have HOX : Hid (X.ownsRow W1.heap.size 3 1 (.slice a6 n6 c6) n6 (nats R)) := hO.out.kept hst (by
            cases hv : (Value.slice a6 n6 c6).ownBlock with
            | none => exact Or.inl rfl
            | some q => exact Or.inr (fun e => by have := (hO.out.lt q hv).1; have := Option.some.inj e; omega))
          have HGX : Hid (W1.grownBy X (some w.heap.size)) := grown_trans hg.out hst
          have HBE : Hid (Below w.heap.size w X) := hb.out.grown hst hb.out.size (fun q hq => by have := Option.some.inj hq; omega)
          have hsX : X.heap.size = W2.heap.size := by rw [hX]; simp
          have HSX : Hid (X.heap.size = W2.heap.size) := hsX
          clear hX hst hc hz hTE2 HS' hsX
          subst ea
          go_wp2_with (first
            | (at_builtin; rw [← HX.out, ← HSX.out]; refine wpList_append_own _ rfl _ _ 53 rfl W1.heap.size 3 i0 (.int .i64 0) 1 8 Try.underlying53 hi hz0 hz1 hz2 rfl (by decide) _ _ _ rfl (HOX.out.alloc _) ⟨X.heap.size, 0, none⟩ 1 1 [.int .i64 ((y : Int) + 1)] rfl rfl (new_cell1 _ _ _) (int_one _) (by unfold maxLen; omega) (by omega) (by have := HGX.out.size; simp; omega) ?_; intro v8 w8 hown8 hg8 _; refine Hid.out ?_))
          refine Lib.hid ?_
          obtain ⟨a8, c8, rfl⟩ := own_capS hown8
          have HO8 : Hid (w8.ownsRow W1.heap.size 3 1 (.slice a8 (n6 + 1) c8) (n6 + 1) (nats (R ++ [y + 1]))) := (by rw [nats_app]; exact hown8 : w8.ownsRow W1.heap.size 3 1 (.slice a8 (n6 + 1) c8) (n6 + 1) (nats (R ++ [y + 1])))
          have hA := HOX.out.alloc (.cells #[.int .i64 ((y : Int) + 1)] 3)
          have HG8 : Hid (W1.grownBy w8 (some w.heap.size)) := grown_new (grown_trans HGX.out (grown_none (World.grownBy_alloc _ _ none))) hg8 (fun q hq => (hA.lt q hq).1)
          have HB8 : Hid (Below w.heap.size w w8) := (HBE.out.alloc HBE.out.size _).grown hg8 (by have := HBE.out.size; simp; omega) (fun q hq => by have := (hA.lt q hq).1; omega)
          have HX8 : Hid (w8.heap[w.heap.size]? = some (.cells (flA (upB D' (y + 1))) 201 (0, 0))) := (hg8.block _ (by have := HSX.out; simp; omega) (fun e => by have := (hA.lt _ e.symm).1; omega)).trans (alloc_old HBX.out)
          have HL8 : Hid ((R ++ [y + 1]).length = n6 + 1) := (by rw [List.length_append, HN6.out]; rfl : (R ++ [y + 1]).length = n6 + 1)
          have hc8 : w8.cell? ⟨b, off + y, none⟩ = some (.int .i64 ((z : Int) + 1)) := bcell HB8.out hlt hc2
          have lb : b < w8.heap.size := Nat.lt_of_lt_of_le hlt HB8.out.size
          have hyI : (y : Int) < (n : Int) := by omega
          clear hown8 hg8 hA hc2 e0 f0
          go_wp2
          go_roundw
          case rel => exact ⟨R ++ [y + 1], upB D' (y + 1), z, f', n6 + 1, c8, a8, hzn, hL7, rfl, rfl, HL8.out, HRN.out, HX8.out, HO8.out, HG8.out, HB8.out⟩
          case measure => simp only [lenOf]; omega
        | true =>
          rw [hd] at e0
          have HST : Hid (rg E 7 (rgs E k).1 (k + 1) = (R, D')) := HRG.out.stop hd
          obtain ⟨ys, hyl, hyr, hye⟩ := hK.out.rows
          have HRW : Hid (NatsOwn W2 (w.heap.size + 1) (.slice a3 n3 c3) (rgs E k).2) := (⟨ys, hyl, hyr.kept hg.out (by
            cases hv : (Value.slice a3 n3 c3).ownBlock with
            | none => exact Or.inl rfl
            | some q => exact Or.inr (fun e => by have := (hyr.lt q hv).1; have := Option.some.inj e; omega)), fun j hj => (hye j hj).kept hg.out (by
            cases hv : (ys.getD j (.bool false)).ownBlock with
            | none => exact Or.inl rfl
            | some q => exact Or.inr (fun e => by have := ((hye j hj).lt q hv).1; have := Option.some.inj e; omega))⟩ : NatsOwn W2 (w.heap.size + 1) (.slice a3 n3 c3) (rgs E k).2)
          clear hyr hye hyl
          by_cases h6 : n6 = 0
          · have HNX : Hid (rgs E (k + 1) = (D', (rgs E k).2)) := (by
              show ((rg E 7 (rgs E k).1 (k + 1)).2, if (rg E 7 (rgs E k).1 (k + 1)).1.length = 0 then (rgs E k).2 else (rgs E k).2 ++ [(rg E 7 (rgs E k).1 (k + 1)).1]) = _
              rw [HST.out, if_pos (by show R.length = 0; rw [HN6.out]; exact h6)] : rgs E (k + 1) = (D', (rgs E k).2))
            subst h6
            go_wp2
            go_roundw
            case rel => exact ⟨k + 1, n3, c3, a3, by omega, by omega, by go_num, rfl, by rw [HNX.out]; exact HN3.out, by rw [HNX.out]; exact ⟨hbx.out, HRW.out, hb.out⟩⟩
            case measure => simp only [intOf]; omega
          · have HNX : Hid (rgs E (k + 1) = (D', (rgs E k).2 ++ [R])) := (by
              show ((rg E 7 (rgs E k).1 (k + 1)).2, if (rg E 7 (rgs E k).1 (k + 1)).1.length = 0 then (rgs E k).2 else (rgs E k).2 ++ [(rg E 7 (rgs E k).1 (k + 1)).1]) = _
              rw [HST.out, if_neg (by show ¬ R.length = 0; rw [HN6.out]; exact h6)] : rgs E (k + 1) = (D', (rgs E k).2 ++ [R]))
            have h6p : 0 < n6 := by omega
            have hdp : decide (0 < (n6 : Int)) = true := by simp; omega
            have hdp2 : decide (0 < n6) = true := by simp; omega
            have HON : Hid (∀ u ∈ [Value.slice a6 n6 c6], u.oneCell' = true) := own_oneS hO.out
            obtain ⟨ys, hyl, hyr, -⟩ := HRW.out
            have HYR : Hid (W2.ownsRow (w.heap.size + 1) 53 1 (.slice a3 n3 c3) n3 ys) := (by have h := hyr; rw [hyl, HN3.out] at h; exact h : W2.ownsRow (w.heap.size + 1) 53 1 (.slice a3 n3 c3) n3 ys)
            have HYL : Hid (ys.length = (rgs E k).2.length) := hyl
            clear hyr hyl
            go_wp2_with (first
              | (at_builtin; refine wpList_append_own _ rfl _ _ 33 rfl (w.heap.size + 1) 53 i1 (.slice none 0 0) 1 24 Try.underlying33 hj hy0 hy1 hy2 rfl (by decide) _ _ _ rfl (HYR.out.alloc _) ⟨W2.heap.size, 0, none⟩ 1 1 [Value.slice a6 n6 c6] rfl rfl (new_cell1 _ _ _) HON.out (by unfold maxLen; omega) (by omega) (by simp; omega) ?_; intro v8 w8 hown8 hg8 _; refine Hid.out ?_))
            refine Lib.hid ?_
            obtain ⟨a8, c8, rfl⟩ := own_capS hown8
            have HRA : Hid (NatsOwn (W2.alloc (.cells #[Value.slice a6 n6 c6] 53)) (w.heap.size + 1) (.slice a3 n3 c3) (rgs E k).2) := HRW.out.any (World.grownBy_alloc _ _ none)
            have hA := HYR.out.alloc (.cells #[Value.slice a6 n6 c6] 53)
            have HR8 : Hid (NatsOwn w8 (w.heap.size + 1) (.slice a8 (n3 + 1) c8) ((rgs E k).2 ++ [R])) := natsOwn_app HRA.out (own_low (by rw [HN6.out]; exact hO.out.alloc _) (by omega)) HYL.out hA hg8 hown8 HN3.out
            have HX8 : Hid (w8.heap[w.heap.size]? = some (.cells (flA D') 201 (0, 0))) := (hg8.block _ (by simp; omega) (fun e => by have := (hA.lt _ e.symm).1; omega)).trans (alloc_old hbx.out)
            have HB8 : Hid (Below w.heap.size w w8) := (hb.out.alloc hb.out.size _).grown hg8 (by have := hb.out.size; simp; omega) (fun q hq => by have := (hA.lt q hq).1; omega)
            clear hown8 hg8 hA
            go_wp2
            go_roundw
            case rel => exact ⟨k + 1, n3 + 1, c8, a8, by omega, by omega, by go_num, rfl, by rw [HNX.out, List.length_append, HN3.out]; rfl, by rw [HNX.out]; exact ⟨HX8.out, HR8.out, HB8.out⟩⟩
            case measure => simp only [intOf]; omega
    · obtain rfl : k = n := by omega
      obtain ⟨ys, hyl, hyr, hye⟩ := hK.out.rows
      have HFN : Hid (NatsOwn W1 w.heap.size (.slice a3 n3 c3) (rgs E k).2 ∧ Below w.heap.size w W1) := (⟨hK.out.rows.low (by omega), hK.out.bel⟩ : NatsOwn W1 w.heap.size (.slice a3 n3 c3) (rgs E k).2 ∧ Below w.heap.size w W1)
      clear hyr hyl hye
      go_wp2
      go_ret
      exact ⟨_, rfl, HFN.out⟩
end Go.Proofs.Ytfceigcjonlhkaa
