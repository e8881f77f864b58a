/- Lists of whole numbers that a call owns; the walk of gauss.evenNumbers. -/
import Derived.Test.YtbikalghmlihlaaW7
namespace Go.Proofs.Ytbikalghmlihlaa
open Go.RowKit

def intsV (l : List Int) : List Value := l.map fun x => .int .i64 x
theorem intsV_len (l : List Int) : (intsV l).length = l.length := by simp [intsV]
theorem intsV_get (l : List Int) (i : Nat) (h : i < l.length) : (intsV l)[i]? = some (.int .i64 (l.getD i 0)) := by simp [intsV, List.getD, h]
theorem intsV_set (l : List Int) (i : Nat) (x : Int) : (intsV l).set i (.int .i64 x) = intsV (l.set i x) := by simp [intsV, List.map_set]
theorem intsV_app (l : List Int) (x : Int) : intsV (l ++ [x]) = intsV l ++ [.int .i64 x] := by simp [intsV]
theorem made_zero (n : Nat) : (madeCells (Value.int .i64 0).cells (n * 1)).toList = intsV (List.replicate n 0) := by
  have e : (Value.int .i64 0).cells = #[Value.int .i64 0] := rfl
  rw [e, toList_madeCells_one, Nat.mul_one]
  simp [intsV]
/-- The even numbers of all crossings, behind j even visits. -/
def evL (x : Nat → Nat) (o : Nat → Bool) (n j : Nat) : List Int := (List.range n).map fun c => evTo x o c j
theorem evL_len (x : Nat → Nat) (o : Nat → Bool) (n j : Nat) : (evL x o n j).length = n := by simp [evL]
theorem evL_at (x : Nat → Nat) (o : Nat → Bool) (n j c : Nat) (h : c < n) : (evL x o n j).getD c 0 = evTo x o c j := by simp [evL, List.getD, h]
theorem evL_zero (x : Nat → Nat) (o : Nat → Bool) (n : Nat) : evL x o n 0 = List.replicate n 0 := by
  unfold evL
  simp only [evTo]
  rw [List.map_const', List.length_range]
theorem evL_next (x : Nat → Nat) (o : Nat → Bool) (n j c : Nat) (h : x (2 * j + 1) = c) (hc : c < n) : (evL x o n j).set c (evN o j) = evL x o n (j + 1) := by
  apply List.ext_getElem?
  intro i
  rw [List.getElem?_set]
  by_cases hi : i < n
  · by_cases e : c = i
    · subst e
      simp [evL, evTo, h, hc]
    · rw [if_neg e]
      simp [evL, hi, evTo, h, e]
  · rw [List.getElem?_eq_none (by rw [evL_len]; omega), List.getElem?_eq_none (by rw [evL_len]; omega)]
    split
    · split
      · next h1 => rw [evL_len] at h1; omega
      · rfl
    · rfl
theorem evTo_le (x : Nat → Nat) (o : Nat → Bool) (c j : Nat) : -(2 * (j : Int)) ≤ evTo x o c j ∧ evTo x o c j ≤ 2 * (j : Int) := by
  induction j with
  | zero => simp [evTo]
  | succ j ih =>
    simp only [evTo, evN]
    split
    · split <;> omega
    · omega
/-- The visits of a list, place by place. -/
def vX (V : List (Nat × Bool)) (p : Nat) : Nat := (V.getD p (0, false)).1
def vO (V : List (Nat × Bool)) (p : Nat) : Bool := (V.getD p (0, false)).2

set_option maxHeartbeats 4000000 in
set_option maxRecDepth 100000 in
theorem even_any (v : Value) (V : List (Nat × Bool)) (n : Nat) (w : World) (hn : n ≤ 20) (h0 : 0 < n) (hV : V.length = 2 * n) (hx : ∀ p, p < 2 * n → vX V p < n) (h : VS w v V) :
    Calls Try.prog 73 #[v] w fun e w' => Below w.heap.size w w' ∧
      ((∃ r, e = .returned (.tuple #[r, .bool true]) ∧ (∀ i, i < n → evTo (vX V) (vO V) (vX V (2 * i)) n ≠ 0) ∧ w'.ownsRow w.heap.size 3 1 r n (intsV (dowTo (vX V) (vO V) n n))) ∨
       (e = .returned (.tuple #[.slice none 0 0, .bool false]) ∧ ∃ i, i < n ∧ evTo (vX V) (vO V) (vX V (2 * i)) n = 0)) := by
  obtain ⟨i0, hi, hz0, hz1, hz2⟩ := info_parts infoInt
  obtain ⟨a, cap, rfl, g⟩ := h
  obtain ⟨b, off, rfl, hbw, hc⟩ := g (by omega)
  have HX : Hid (∀ p, p < 2 * n → vX V p < n) := hx
  have HC : Hid (∀ p, p < 2 * n → w.cell? ⟨b, off + p * 2, none⟩ = some (.int .i64 (vX V p : Nat)) ∧ w.cell? ⟨b, off + p * 2 + 1, none⟩ = some (.bool (vO V p))) := fun p hp => hc p (by omega)
  clear hc g hx
  generalize V.length = vl at hV ⊢
  have HVL : Hid (vl = 2 * n) := hV
  generalize hvx : vX V = X at HX HC ⊢
  generalize hvo : vO V = O at HC ⊢
  clear hvx hvo
  have hq : (vl : Int).tdiv 2 = (n : Int) := by
    rw [Int.tdiv_eq_ediv_of_nonneg (by omega)]
    omega
  have hvb : vl ≤ 40 := by omega
  clear hV
  go_enter Try.func73, Try.ntmps73
  go_wp2_with (first | (at_make; refine wpList_make_full _ rfl _ _ 36 rfl w.heap.size 3 i0 (.int .i64 0) 1 Try.underlying36 hi hz0 hz1 .i64 .i64 _ _ n rfl rfl rfl rfl (by rw [hz2]; omega) (by unfold maxLen; omega) (Nat.le_refl _) ?_; intro w1 hrow hg1; refine Hid.out ?_))
  refine Lib.hid ?_
  rw [made_zero, ← evL_zero X O n] at hrow
  have hb1 : Below w.heap.size w w1 := (Below.refl _ _).grown hg1 (Nat.le_refl _) (fun j hj => by cases hj)
  clear hg1 hq
  go_wp2
  go_loopw [5] (fun v5 wr => ∃ j p : Nat, j ≤ n ∧ Hid (p = 2 * j + 1) ∧ v5 = .int .i64 (p : Nat) ∧ wr.ownsRow w.heap.size 3 1 (.slice (some ⟨w.heap.size, 0, none⟩) n n) n (intsV (evL X O n j)) ∧ Below w.heap.size w wr) (fun v5 _ => 2 * n + 2 - (intOf v5).toNat)
  case atStart => exact ⟨0, 1, Nat.zero_le _, (rfl : 1 = 2 * 0 + 1), rfl, hrow, hb1⟩
  case round =>
    clear hrow hb1
    rename World => W1
    obtain ⟨j, p, hj, hp, rfl, hrow, hb⟩ := hrel
    by_cases hlt : j < n
    · have hp2 : p < 2 * n := by have := hp.out; omega
      have hpv : p < vl := by have := HVL.out; omega
      have hpb : p ≤ 40 := by omega
      obtain ⟨q1, q2⟩ := HC.out p hp2
      have c1 := bcell hb hbw q1
      have c2 := bcell hb hbw q2
      have hxl := HX.out p hp2
      have hst : ∀ wx : World, wx.ownsRow w.heap.size 3 1 (.slice (some ⟨w.heap.size, 0, none⟩) n n) n (intsV (evL X O n j)) → (wx.setCell ⟨w.heap.size, X p, none⟩ (.int .i64 (evN O j))).ownsRow w.heap.size 3 1 (.slice (some ⟨w.heap.size, 0, none⟩) n n) n (intsV (evL X O n (j + 1))) ∧ wx.grownBy (wx.setCell ⟨w.heap.size, X p, none⟩ (.int .i64 (evN O j))) (some w.heap.size) := fun wx hwx => by
        have := hwx.stored (X p) (.int .i64 (evN O j))
        rw [intsV_set, evL_next X O n j (X p) (by rw [← hp.out]) hxl] at this
        exact this
      have HST : Hid (∀ wx : World, wx.ownsRow w.heap.size 3 1 (.slice (some ⟨w.heap.size, 0, none⟩) n n) n (intsV (evL X O n j)) → (wx.setCell ⟨w.heap.size, X p, none⟩ (.int .i64 (evN O j))).ownsRow w.heap.size 3 1 (.slice (some ⟨w.heap.size, 0, none⟩) n n) n (intsV (evL X O n (j + 1))) ∧ wx.grownBy (wx.setCell ⟨w.heap.size, X p, none⟩ (.int .i64 (evN O j))) (some w.heap.size)) := hst
      have HEV : Hid (evN O j = if O p = true then -(((p : Nat) : Int) + 1) else ((p : Nat) : Int) + 1) := (by
        unfold evN
        rw [← hp.out]
        have e : ((2 * j + 2 : Nat) : Int) = (p : Int) + 1 := by have := hp.out; omega
        rw [e] : evN O j = if O p = true then -(((p : Nat) : Int) + 1) else ((p : Nat) : Int) + 1)
      have HE0 : Hid (∃ u, W1.cell? ⟨w.heap.size, X p, none⟩ = some u) := ⟨_, (hrow.cellAt (X p) (by rw [Nat.mul_one]; exact hxl)).trans (intsV_get _ (X p) (by rw [evL_len]; exact hxl))⟩
      have z0 : W1.frozen? ⟨w.heap.size, X p, none⟩ = false := hrow.frozenAt (X p)
      have hgl : w.heap.size < W1.heap.size := (hrow.lt w.heap.size rfl).2
      have hbl : b < W1.heap.size := by omega
      have HRW : Hid (W1.ownsRow w.heap.size 3 1 (.slice (some ⟨w.heap.size, 0, none⟩) n n) n (intsV (evL X O n j))) := hrow
      obtain ⟨u, e0⟩ := HE0.out
      generalize X p = xp at c1 hxl HST HE0 z0 e0
      clear q1 q2 hst hrow HE0
      have hdp : decide ((p : Int) < (vl : Int)) = true := by have := HVL.out; simp; omega
      have hdp2 : decide (p < vl) = true := by have := HVL.out; simp; omega
      have hwp : IntKind.i64.wrap ((p : Int) + 1) = (p : Int) + 1 := IntWalk.i64_in _ (by omega)
      cases hO : O p with
      | false =>
        rw [hO] at c2 HEV
        simp only [Bool.false_eq_true, if_false] at HEV
        rw [HEV.out] at HST
        go_wp2
        go_roundw
        case rel => exact ⟨j + 1, p + 2, by omega, (by have := hp.out; omega : p + 2 = 2 * (j + 1) + 1), by go_num, (HST.out _ HRW.out).1, hb.grown (HST.out _ HRW.out).2 hb.size (fun q hq => by have := Option.some.inj hq; omega)⟩
        case measure => simp only [intOf]; omega
      | true =>
        rw [hO] at c2 HEV
        simp only [if_true] at HEV
        rw [HEV.out] at HST
        go_wp2
        go_roundw
        case rel => exact ⟨j + 1, p + 2, by omega, (by have := hp.out; omega : p + 2 = 2 * (j + 1) + 1), by go_num, (HST.out _ HRW.out).1, hb.grown (HST.out _ HRW.out).2 hb.size (fun q hq => by have := Option.some.inj hq; omega)⟩
        case measure => simp only [intOf]; omega
    · obtain rfl : j = n := by omega
      have hpn : ¬ p < 2 * j := by have := hp.out; omega
      have hdp : decide ((p : Int) < (vl : Int)) = false := by have := HVL.out; simp; omega
      have hdp2 : decide (p < vl) = false := by have := HVL.out; simp; omega
      have HRW : Hid (W1.ownsRow w.heap.size 3 1 (.slice (some ⟨w.heap.size, 0, none⟩) j j) j (intsV (evL X O j j))) := hrow
      have hgl : w.heap.size < W1.heap.size := (hrow.lt w.heap.size rfl).2
      clear hrow
      go_wp2
      go_loopw [2, 7] (fun v2 v7 ws => ∃ i p : Nat, i ≤ j ∧ Hid (p = 2 * i) ∧ v7 = .int .i64 (p : Nat) ∧ Hid (∀ i', i' < i → evTo X O (X (2 * i')) j ≠ 0) ∧ ws.ownsRow W1.heap.size 3 1 v2 i (intsV (dowTo X O j i)) ∧ Below W1.heap.size W1 ws) (fun _ v7 _ => 2 * j + 2 - (intOf v7).toNat)
      case atStart => exact ⟨0, 0, Nat.zero_le _, (rfl : 0 = 2 * 0), rfl, fun i' h => absurd h (Nat.not_lt_zero _), World.ownsRow_nil _ _ _ _, Below.refl _ _⟩
      case round =>
        rename World => W3
        obtain ⟨i, p', hi', hp', rfl, hall, hrow, hb3⟩ := hrel
        have hsz3 := hb3.size
        obtain ⟨a2, c2, rfl⟩ := own_capS hrow
        by_cases hlt2 : i < j
        · have hp2 : p' < 2 * j := by have := hp'.out; omega
          have hpv : p' < vl := by have := HVL.out; omega
          obtain ⟨q1, -⟩ := HC.out p' hp2
          have HB : Hid (Below w.heap.size w W3) := hb.trans (hb3.mono hb.size)
          have c1 := bcell HB.out hbw q1
          have hxl := HX.out p' hp2
          have e0 : W3.cell? ⟨w.heap.size, X p', none⟩ = some (.int .i64 (evTo X O (X p') j)) := by
            have hr := own_any HRW.out (grown_below hb3 none)
            rw [hr.cellAt (X p') (by rw [Nat.mul_one]; exact hxl), intsV_get _ (X p') (by rw [evL_len]; exact hxl), evL_at X O j j (X p') hxl]
          have HDN : Hid (dowTo X O j (i + 1) = dowTo X O j i ++ [evTo X O (X p') j]) := (by
            rw [hp'.out]
            rfl : dowTo X O j (i + 1) = dowTo X O j i ++ [evTo X O (X p') j])
          have HEQ : Hid (X (2 * i) = X p') := (by rw [hp'.out] : X (2 * i) = X p')
          have hgl3 : w.heap.size < W3.heap.size := by omega
          have hbl3 : b < W3.heap.size := by omega
          have hdq : decide ((p' : Int) < (vl : Int)) = true := by have := HVL.out; simp; omega
          have hdq2 : decide (p' < vl) = true := by have := HVL.out; simp; omega
          clear q1
          have HEV : Hid (evTo X O (X p') j = evTo X O (X (2 * i)) j) := (by rw [HEQ.out] : evTo X O (X p') j = evTo X O (X (2 * i)) j)
          generalize evTo X O (X p') j = ev at e0 HDN HEV
          generalize X p' = xp at c1 hxl e0 HEQ
          by_cases hz : ev = 0
          · subst hz
            go_wp2
            go_ret2
            exact ⟨HB.out, Or.inr ⟨rfl, i, hlt2, HEV.out.symm⟩⟩
          · have hd : (ev == 0) = false := by rw [beq_eq_false_iff_ne]; exact hz
            have HRX : Hid (W3.ownsRow W1.heap.size 3 1 (.slice a2 i c2) i (intsV (dowTo X O j i))) := hrow
            clear hrow
            go_wp2_with (first
              | (at_builtin; refine wpList_append_own _ rfl _ _ 36 rfl W1.heap.size 3 i0 (.int .i64 0) 1 8 Try.underlying36 hi hz0 hz1 hz2 rfl (by decide) _ _ _ rfl (HRX.out.alloc _) ⟨W3.heap.size, 0, none⟩ 1 1 [.int .i64 ev] rfl rfl (new_cell1 _ _ _) (int_one _) (by unfold maxLen; omega) (by omega) (by simp; omega) ?_; intro v8 w8 hown8 hg8 _; go_frame))
            go_roundw
            case rel =>
              have hR := HRX.out.alloc (.cells #[.int .i64 ev] 3)
              refine ⟨i + 1, p' + 2, by omega, (by have := hp'.out; omega : p' + 2 = 2 * (i + 1)), by go_num, fun i' h' => ?_, by rw [HDN.out, intsV_app]; exact hown8, (hb3.alloc hsz3 _).grown hg8 (by simp; omega) (fun q hq => (hR.lt q hq).1)⟩
              by_cases e : i' = i
              · rw [e, ← HEV.out]; exact hz
              · exact hall.out i' (by omega)
            case measure => simp only [intOf]; omega
        · obtain rfl : i = j := by omega
          have hdq : decide ((p' : Int) < (vl : Int)) = false := by have := HVL.out; have := hp'.out; simp; omega
          have hdq2 : decide (p' < vl) = false := by have := HVL.out; have := hp'.out; simp; omega
          go_wp2
          go_ret2
          exact ⟨hb.trans (hb3.mono hb.size), Or.inl ⟨_, rfl, hall.out, own_low hrow hb.size⟩⟩
end Go.Proofs.Ytbikalghmlihlaa
