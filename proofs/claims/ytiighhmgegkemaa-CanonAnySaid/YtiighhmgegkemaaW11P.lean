/- Several texts of the proof, one behind the other. -/
import Derived.Test.YtiighhmgegkemaaW6P
/- Lists of whole numbers that a call owns; the walk of gauss.evenNumbers. -/
namespace Go.Proofs.Ytiighhmgegkemaa
open Go.RowKit

def intsV (l : List Int) : List Value := l.map fun x => .int .i64 x
theorem intsV_len (l : List Int) : (intsV l).length = l.length := by simp [intsV]
theorem intsV_get (l : List Int) (i : Nat) (h : i < l.length) : (intsV l)[i]? = some (.int .i64 (l.getD i 0)) := by simp [intsV, List.getD, h]
theorem intsV_set (l : List Int) (i : Nat) (x : Int) : (intsV l).set i (.int .i64 x) = intsV (l.set i x) := by simp [intsV, List.map_set]
theorem intsV_app (l : List Int) (x : Int) : intsV (l ++ [x]) = intsV l ++ [.int .i64 x] := by simp [intsV]
theorem made_zero (n : Nat) : (madeCells (Value.int .i64 0).cells (n * 1)).toList = intsV (List.replicate n 0) := by
  have e : (Value.int .i64 0).cells = #[Value.int .i64 0] := rfl
  rw [e, toList_madeCells_one, Nat.mul_one]
  simp [intsV]
/-- The even numbers of all crossings, behind j even visits. -/
def evL (x : Nat → Nat) (o : Nat → Bool) (n j : Nat) : List Int := (List.range n).map fun c => evTo x o c j
theorem evL_len (x : Nat → Nat) (o : Nat → Bool) (n j : Nat) : (evL x o n j).length = n := by simp [evL]
theorem evL_at (x : Nat → Nat) (o : Nat → Bool) (n j c : Nat) (h : c < n) : (evL x o n j).getD c 0 = evTo x o c j := by simp [evL, List.getD, h]
theorem evL_zero (x : Nat → Nat) (o : Nat → Bool) (n : Nat) : evL x o n 0 = List.replicate n 0 := by
  unfold evL
  simp only [evTo]
  rw [List.map_const', List.length_range]
theorem evL_next (x : Nat → Nat) (o : Nat → Bool) (n j c : Nat) (h : x (2 * j + 1) = c) (hc : c < n) : (evL x o n j).set c (evN o j) = evL x o n (j + 1) := by
  apply List.ext_getElem?
  intro i
  rw [List.getElem?_set]
  by_cases hi : i < n
  · by_cases e : c = i
    · subst e
      simp [evL, evTo, h, hc]
    · rw [if_neg e]
      simp [evL, hi, evTo, h, e]
  · rw [List.getElem?_eq_none (by rw [evL_len]; omega), List.getElem?_eq_none (by rw [evL_len]; omega)]
    split
    · split
      · next h1 => rw [evL_len] at h1; omega
      · rfl
    · rfl
theorem evTo_le (x : Nat → Nat) (o : Nat → Bool) (c j : Nat) : -(2 * (j : Int)) ≤ evTo x o c j ∧ evTo x o c j ≤ 2 * (j : Int) := by
  induction j with
  | zero => simp [evTo]
  | succ j ih =>
    simp only [evTo, evN]
    split
    · split <;> omega
    · omega
/-- The visits of a list, place by place. -/
def vX (V : List (Nat × Bool)) (p : Nat) : Nat := (V.getD p (0, false)).1
def vO (V : List (Nat × Bool)) (p : Nat) : Bool := (V.getD p (0, false)).2

set_option maxHeartbeats 4000000 in
set_option maxRecDepth 100000 in
theorem even_any (v : Value) (V : List (Nat × Bool)) (n : Nat) (w : World) (hn : n ≤ 20) (h0 : 0 < n) (hV : V.length = 2 * n) (hx : ∀ p, p < 2 * n → vX V p < n) (h : VS w v V) :
    Calls Try.prog 93 #[v] w fun e w' => Below w.heap.size w w' ∧
      ((∃ r, e = .returned (.tuple #[r, .bool true]) ∧ (∀ i, i < n → evTo (vX V) (vO V) (vX V (2 * i)) n ≠ 0) ∧ w'.ownsRow w.heap.size 3 1 r n (intsV (dowTo (vX V) (vO V) n n))) ∨
       (e = .returned (.tuple #[.slice none 0 0, .bool false]) ∧ ∃ i, i < n ∧ evTo (vX V) (vO V) (vX V (2 * i)) n = 0)) := by
  obtain ⟨i0, hi, hz0, hz1, hz2⟩ := info_parts infoInt
  obtain ⟨a, cap, rfl, g⟩ := h
  obtain ⟨b, off, rfl, hbw, hc⟩ := g (by omega)
  have HX : Hid (∀ p, p < 2 * n → vX V p < n) := hx
  have HC : Hid (∀ p, p < 2 * n → w.cell? ⟨b, off + p * 2, none⟩ = some (.int .i64 (vX V p : Nat)) ∧ w.cell? ⟨b, off + p * 2 + 1, none⟩ = some (.bool (vO V p))) := fun p hp => hc p (by omega)
  clear hc g hx
  generalize V.length = vl at hV ⊢
  have HVL : Hid (vl = 2 * n) := hV
  generalize hvx : vX V = X at HX HC ⊢
  generalize hvo : vO V = O at HC ⊢
  clear hvx hvo
  have hq : (vl : Int).tdiv 2 = (n : Int) := by
    rw [Int.tdiv_eq_ediv_of_nonneg (by omega)]
    omega
  have hvb : vl ≤ 40 := by omega
  clear hV
  go_enter Try.func93, Try.ntmps93
  go_wp2_with (first | (at_make; refine wpList_make_full _ rfl _ _ 52 rfl w.heap.size 3 i0 (.int .i64 0) 1 Try.underlying52 hi hz0 hz1 .i64 .i64 _ _ n rfl rfl rfl rfl (by rw [hz2]; omega) (by unfold maxLen; omega) (Nat.le_refl _) ?_; intro w1 hrow hg1; refine Hid.out ?_))
  refine Lib.hid ?_
  rw [made_zero, ← evL_zero X O n] at hrow
  have hb1 : Below w.heap.size w w1 := (Below.refl _ _).grown hg1 (Nat.le_refl _) (fun j hj => by cases hj)
  clear hg1 hq
  go_wp2
  go_loopw [5] (fun v5 wr => ∃ j p : Nat, j ≤ n ∧ Hid (p = 2 * j + 1) ∧ v5 = .int .i64 (p : Nat) ∧ wr.ownsRow w.heap.size 3 1 (.slice (some ⟨w.heap.size, 0, none⟩) n n) n (intsV (evL X O n j)) ∧ Below w.heap.size w wr) (fun v5 _ => 2 * n + 2 - (intOf v5).toNat)
  case atStart => exact ⟨0, 1, Nat.zero_le _, (rfl : 1 = 2 * 0 + 1), rfl, hrow, hb1⟩
  case round =>
    clear hrow hb1
    rename World => W1
    obtain ⟨j, p, hj, hp, rfl, hrow, hb⟩ := hrel
    by_cases hlt : j < n
    · have hp2 : p < 2 * n := by have := hp.out; omega
      have hpv : p < vl := by have := HVL.out; omega
      have hpb : p ≤ 40 := by omega
      obtain ⟨q1, q2⟩ := HC.out p hp2
      have c1 := bcell hb hbw q1
      have c2 := bcell hb hbw q2
      have hxl := HX.out p hp2
      have hst : ∀ wx : World, wx.ownsRow w.heap.size 3 1 (.slice (some ⟨w.heap.size, 0, none⟩) n n) n (intsV (evL X O n j)) → (wx.setCell ⟨w.heap.size, X p, none⟩ (.int .i64 (evN O j))).ownsRow w.heap.size 3 1 (.slice (some ⟨w.heap.size, 0, none⟩) n n) n (intsV (evL X O n (j + 1))) ∧ wx.grownBy (wx.setCell ⟨w.heap.size, X p, none⟩ (.int .i64 (evN O j))) (some w.heap.size) := fun wx hwx => by
        have := hwx.stored (X p) (.int .i64 (evN O j))
        rw [intsV_set, evL_next X O n j (X p) (by rw [← hp.out]) hxl] at this
        exact this
      have HST : Hid (∀ wx : World, wx.ownsRow w.heap.size 3 1 (.slice (some ⟨w.heap.size, 0, none⟩) n n) n (intsV (evL X O n j)) → (wx.setCell ⟨w.heap.size, X p, none⟩ (.int .i64 (evN O j))).ownsRow w.heap.size 3 1 (.slice (some ⟨w.heap.size, 0, none⟩) n n) n (intsV (evL X O n (j + 1))) ∧ wx.grownBy (wx.setCell ⟨w.heap.size, X p, none⟩ (.int .i64 (evN O j))) (some w.heap.size)) := hst
      have HEV : Hid (evN O j = if O p = true then -(((p : Nat) : Int) + 1) else ((p : Nat) : Int) + 1) := (by
        unfold evN
        rw [← hp.out]
        have e : ((2 * j + 2 : Nat) : Int) = (p : Int) + 1 := by have := hp.out; omega
        rw [e] : evN O j = if O p = true then -(((p : Nat) : Int) + 1) else ((p : Nat) : Int) + 1)
      have HE0 : Hid (∃ u, W1.cell? ⟨w.heap.size, X p, none⟩ = some u) := ⟨_, (hrow.cellAt (X p) (by rw [Nat.mul_one]; exact hxl)).trans (intsV_get _ (X p) (by rw [evL_len]; exact hxl))⟩
      have z0 : W1.frozen? ⟨w.heap.size, X p, none⟩ = false := hrow.frozenAt (X p)
      have hgl : w.heap.size < W1.heap.size := (hrow.lt w.heap.size rfl).2
      have hbl : b < W1.heap.size := by omega
      have HRW : Hid (W1.ownsRow w.heap.size 3 1 (.slice (some ⟨w.heap.size, 0, none⟩) n n) n (intsV (evL X O n j))) := hrow
      obtain ⟨u, e0⟩ := HE0.out
      generalize X p = xp at c1 hxl HST HE0 z0 e0
      clear q1 q2 hst hrow HE0
      have hdp : decide ((p : Int) < (vl : Int)) = true := by have := HVL.out; simp; omega
      have hdp2 : decide (p < vl) = true := by have := HVL.out; simp; omega
      have hwp : IntKind.i64.wrap ((p : Int) + 1) = (p : Int) + 1 := IntWalk.i64_in _ (by omega)
      cases hO : O p with
      | false =>
        rw [hO] at c2 HEV
        simp only [Bool.false_eq_true, if_false] at HEV
        rw [HEV.out] at HST
        go_wp2
        go_roundw
        case rel => exact ⟨j + 1, p + 2, by omega, (by have := hp.out; omega : p + 2 = 2 * (j + 1) + 1), by go_num, (HST.out _ HRW.out).1, hb.grown (HST.out _ HRW.out).2 hb.size (fun q hq => by have := Option.some.inj hq; omega)⟩
        case measure => simp only [intOf]; omega
      | true =>
        rw [hO] at c2 HEV
        simp only [if_true] at HEV
        rw [HEV.out] at HST
        go_wp2
        go_roundw
        case rel => exact ⟨j + 1, p + 2, by omega, (by have := hp.out; omega : p + 2 = 2 * (j + 1) + 1), by go_num, (HST.out _ HRW.out).1, hb.grown (HST.out _ HRW.out).2 hb.size (fun q hq => by have := Option.some.inj hq; omega)⟩
        case measure => simp only [intOf]; omega
    · obtain rfl : j = n := by omega
      have hpn : ¬ p < 2 * j := by have := hp.out; omega
      have hdp : decide ((p : Int) < (vl : Int)) = false := by have := HVL.out; simp; omega
      have hdp2 : decide (p < vl) = false := by have := HVL.out; simp; omega
      have HRW : Hid (W1.ownsRow w.heap.size 3 1 (.slice (some ⟨w.heap.size, 0, none⟩) j j) j (intsV (evL X O j j))) := hrow
      have hgl : w.heap.size < W1.heap.size := (hrow.lt w.heap.size rfl).2
      clear hrow
      go_wp2
      go_loopw [2, 7] (fun v2 v7 ws => ∃ i p : Nat, i ≤ j ∧ Hid (p = 2 * i) ∧ v7 = .int .i64 (p : Nat) ∧ Hid (∀ i', i' < i → evTo X O (X (2 * i')) j ≠ 0) ∧ ws.ownsRow W1.heap.size 3 1 v2 i (intsV (dowTo X O j i)) ∧ Below W1.heap.size W1 ws) (fun _ v7 _ => 2 * j + 2 - (intOf v7).toNat)
      case atStart => exact ⟨0, 0, Nat.zero_le _, (rfl : 0 = 2 * 0), rfl, fun i' h => absurd h (Nat.not_lt_zero _), World.ownsRow_nil _ _ _ _, Below.refl _ _⟩
      case round =>
        rename World => W3
        obtain ⟨i, p', hi', hp', rfl, hall, hrow, hb3⟩ := hrel
        have hsz3 := hb3.size
        obtain ⟨a2, c2, rfl⟩ := own_capS hrow
        by_cases hlt2 : i < j
        · have hp2 : p' < 2 * j := by have := hp'.out; omega
          have hpv : p' < vl := by have := HVL.out; omega
          obtain ⟨q1, -⟩ := HC.out p' hp2
          have HB : Hid (Below w.heap.size w W3) := hb.trans (hb3.mono hb.size)
          have c1 := bcell HB.out hbw q1
          have hxl := HX.out p' hp2
          have e0 : W3.cell? ⟨w.heap.size, X p', none⟩ = some (.int .i64 (evTo X O (X p') j)) := by
            have hr := own_any HRW.out (grown_below hb3 none)
            rw [hr.cellAt (X p') (by rw [Nat.mul_one]; exact hxl), intsV_get _ (X p') (by rw [evL_len]; exact hxl), evL_at X O j j (X p') hxl]
          have HDN : Hid (dowTo X O j (i + 1) = dowTo X O j i ++ [evTo X O (X p') j]) := (by
            rw [hp'.out]
            rfl : dowTo X O j (i + 1) = dowTo X O j i ++ [evTo X O (X p') j])
          have HEQ : Hid (X (2 * i) = X p') := (by rw [hp'.out] : X (2 * i) = X p')
          have hgl3 : w.heap.size < W3.heap.size := by omega
          have hbl3 : b < W3.heap.size := by omega
          have hdq : decide ((p' : Int) < (vl : Int)) = true := by have := HVL.out; simp; omega
          have hdq2 : decide (p' < vl) = true := by have := HVL.out; simp; omega
          clear q1
          have HEV : Hid (evTo X O (X p') j = evTo X O (X (2 * i)) j) := (by rw [HEQ.out] : evTo X O (X p') j = evTo X O (X (2 * i)) j)
          generalize evTo X O (X p') j = ev at e0 HDN HEV
          generalize X p' = xp at c1 hxl e0 HEQ
          by_cases hz : ev = 0
          · subst hz
            go_wp2
            go_ret2
            exact ⟨HB.out, Or.inr ⟨rfl, i, hlt2, HEV.out.symm⟩⟩
          · have hd : (ev == 0) = false := by rw [beq_eq_false_iff_ne]; exact hz
            have HRX : Hid (W3.ownsRow W1.heap.size 3 1 (.slice a2 i c2) i (intsV (dowTo X O j i))) := hrow
            clear hrow
            go_wp2_with (first
              | (at_builtin; refine wpList_append_own _ rfl _ _ 52 rfl W1.heap.size 3 i0 (.int .i64 0) 1 8 Try.underlying52 hi hz0 hz1 hz2 rfl (by decide) _ _ _ rfl (HRX.out.alloc _) ⟨W3.heap.size, 0, none⟩ 1 1 [.int .i64 ev] rfl rfl (new_cell1 _ _ _) (int_one _) (by unfold maxLen; omega) (by omega) (by simp; omega) ?_; intro v8 w8 hown8 hg8 _; go_frame))
            go_roundw
            case rel =>
              have hR := HRX.out.alloc (.cells #[.int .i64 ev] 3)
              refine ⟨i + 1, p' + 2, by omega, (by have := hp'.out; omega : p' + 2 = 2 * (i + 1)), by go_num, fun i' h' => ?_, by rw [HDN.out, intsV_app]; exact hown8, (hb3.alloc hsz3 _).grown hg8 (by simp; omega) (fun q hq => (hR.lt q hq).1)⟩
              by_cases e : i' = i
              · rw [e, ← HEV.out]; exact hz
              · exact hall.out i' (by omega)
            case measure => simp only [intOf]; omega
        · obtain rfl : i = j := by omega
          have hdq : decide ((p' : Int) < (vl : Int)) = false := by have := HVL.out; have := hp'.out; simp; omega
          have hdq2 : decide (p' < vl) = false := by have := HVL.out; have := hp'.out; simp; omega
          go_wp2
          go_ret2
          exact ⟨hb.trans (hb3.mono hb.size), Or.inl ⟨_, rfl, hall.out, own_low hrow hb.size⟩⟩
end Go.Proofs.Ytiighhmgegkemaa
/- Slices that are read; lists of numbers that stand in a function's values; which walk an arc lies in. -/
namespace Go.Proofs.Ytiighhmgegkemaa
open Go.RowKit

/-- A slice to be read: nil; with no element; or its cells lie there, below B. -/
def RdAt (w : World) (B size : Nat) (v : Value) (n : Nat) (xs : List Value) : Prop := ∃ a cap, v = .slice a n cap ∧ (0 < n → ∃ b off, a = some ⟨b, off, none⟩ ∧ b < B ∧ ∀ j, j < n * size → w.cell? ⟨b, off + j, none⟩ = xs[j]?)
theorem RdAt.on {w w' : World} {B size n : Nat} {v : Value} {xs : List Value} (h : RdAt w B size v n xs) (hb : Below B w w') : RdAt w' B size v n xs := by
  obtain ⟨a, cap, rfl, f⟩ := h
  refine ⟨a, cap, rfl, fun h0 => ?_⟩
  obtain ⟨b, off, rfl, hlt, hc⟩ := f h0
  exact ⟨b, off, rfl, hlt, fun j hj => bcell hb hlt (hc j hj)⟩
theorem RdAt.mono {w : World} {B B' size n : Nat} {v : Value} {xs : List Value} (h : RdAt w B size v n xs) (hB : B ≤ B') : RdAt w B' size v n xs := by
  obtain ⟨a, cap, rfl, f⟩ := h
  refine ⟨a, cap, rfl, fun h0 => ?_⟩
  obtain ⟨b, off, rfl, hlt, hc⟩ := f h0
  exact ⟨b, off, rfl, Nat.lt_of_lt_of_le hlt hB, hc⟩
theorem own_rd {w : World} {B e size n : Nat} {v : Value} {xs : List Value} (h : w.ownsRow B e size v n xs) : RdAt w w.heap.size size v n xs := by
  have h0 := h
  rcases h.2 with ⟨rfl, h1⟩ | ⟨g, cap, cur, rfl, _, _, _⟩
  · exact ⟨none, 0, by rw [h1], fun hp => by omega⟩
  · exact ⟨some ⟨g, 0, none⟩, cap, rfl, fun _ => ⟨g, 0, rfl, (h0.lt g rfl).2, fun j hj => by rw [Nat.zero_add]; exact h0.cellAt j hj⟩⟩
/-- Lists of numbers to be read. -/
def NatsRd (w : World) (B : Nat) (v : Value) (L : List (List Nat)) : Prop := ∃ ys : List Value, ys.length = L.length ∧ RdAt w B 1 v L.length ys ∧ ∀ j, j < L.length → RdAt w B 1 (ys.getD j (.bool false)) (L.getD j []).length (nats (L.getD j []))
theorem NatsRd.on {w w' : World} {B : Nat} {v : Value} {L : List (List Nat)} (h : NatsRd w B v L) (hb : Below B w w') : NatsRd w' B v L := by
  obtain ⟨ys, hy, h1, h2⟩ := h
  exact ⟨ys, hy, h1.on hb, fun j hj => (h2 j hj).on hb⟩
theorem NatsRd.mono {w : World} {B B' : Nat} {v : Value} {L : List (List Nat)} (h : NatsRd w B v L) (hB : B ≤ B') : NatsRd w B' v L := by
  obtain ⟨ys, hy, h1, h2⟩ := h
  exact ⟨ys, hy, h1.mono hB, fun j hj => (h2 j hj).mono hB⟩
theorem NatsRd.up {w w' : World} {v : Value} {L : List (List Nat)} (h : NatsRd w w.heap.size v L) (hb : Below w.heap.size w w') : NatsRd w' w'.heap.size v L := (h.on hb).mono hb.size
theorem NatsOwn.rd {w : World} {B : Nat} {v : Value} {L : List (List Nat)} (h : NatsOwn w B v L) : NatsRd w w.heap.size v L := by
  obtain ⟨ys, hy, h1, h2⟩ := h
  exact ⟨ys, hy, by rw [← hy]; exact own_rd h1, fun j hj => own_rd (h2 j hj)⟩
theorem NatsRd.len {w : World} {B : Nat} {v : Value} {L : List (List Nat)} (h : NatsRd w B v L) : ∃ a cap, v = .slice a L.length cap := by
  obtain ⟨ys, hy, ⟨a, cap, e, -⟩, h2⟩ := h
  exact ⟨a, cap, e⟩
/-- The row j, and where it stands. -/
theorem NatsRd.row {w : World} {B : Nat} {a : Option Addr} {cap : Nat} {L : List (List Nat)} (h : NatsRd w B (.slice a L.length cap) L) (j : Nat) (hj : j < L.length) :
    ∃ b off ar cr, a = some ⟨b, off, none⟩ ∧ b < B ∧ w.cell? ⟨b, off + j, none⟩ = some (.slice ar (L.getD j []).length cr) ∧ RdAt w B 1 (.slice ar (L.getD j []).length cr) (L.getD j []).length (nats (L.getD j [])) := by
  obtain ⟨ys, hy, ⟨a', cap', e, f⟩, h2⟩ := h
  injection e with e1 e2 e3
  obtain ⟨b, off, eb, hlt, hc⟩ := f (by omega)
  have hr := h2 j hj
  obtain ⟨ar, cr, er, -⟩ := hr
  have hr := h2 j hj
  rw [er] at hr
  refine ⟨b, off, ar, cr, e1.trans eb, hlt, ?_, hr⟩
  rw [hc j (by omega), ← er]
  simp [List.getD, hy, hj]
theorem RdAt.nat {w : World} {B : Nat} {a : Option Addr} {cap : Nat} {l : List Nat} (h : RdAt w B 1 (.slice a l.length cap) l.length (nats l)) (k : Nat) (hk : k < l.length) :
    ∃ b off, a = some ⟨b, off, none⟩ ∧ b < B ∧ w.cell? ⟨b, off + k, none⟩ = some (.int .i64 (l.getD k 0 : Nat)) := by
  obtain ⟨a', cap', e, f⟩ := h
  injection e with e1 e2 e3
  obtain ⟨b, off, eb, hlt, hc⟩ := f (by omega)
  exact ⟨b, off, e1.trans eb, hlt, (hc k (by omega)).trans (nats_get l k hk)⟩

/-- A function's values, as a list. -/
def mapI (m : Nat) (f : Nat → Int) : List Int := (List.range m).map f
theorem mapI_len (m : Nat) (f : Nat → Int) : (mapI m f).length = m := by simp [mapI]
theorem mapI_get (m : Nat) (f : Nat → Int) (i : Nat) (h : i < m) : (mapI m f)[i]? = some (f i) := by simp [mapI, h]
theorem mapI_at (m : Nat) (f : Nat → Int) (i : Nat) (h : i < m) : (mapI m f).getD i 0 = f i := by rw [List.getD_eq_getElem?_getD, mapI_get m f i h]; rfl
theorem mapI_set (m : Nat) (f g : Nat → Int) (i : Nat) (x : Int) (h : ∀ j, j < m → g j = if j = i then x else f j) : (mapI m f).set i x = mapI m g := by
  apply List.ext_getElem?
  intro j
  by_cases hj : j < m
  · rw [mapI_get m g j hj, h j hj, List.getElem?_set]
    by_cases e : i = j
    · subst e; simp [mapI_len, hj]
    · rw [if_neg e, if_neg (fun h => e h.symm), mapI_get m f j hj]
  · rw [List.getElem?_eq_none (by simp [mapI_len]; omega), List.getElem?_eq_none (by simp [mapI_len]; omega)]
theorem mapI_zero (m : Nat) (f : Nat → Int) (h : ∀ j, j < m → f j = 0) : mapI m f = List.replicate m 0 := by
  apply List.ext_getElem?
  intro j
  by_cases hj : j < m
  · rw [mapI_get m f j hj, h j hj]; simp [hj]
  · rw [List.getElem?_eq_none (by simp [mapI_len]; omega), List.getElem?_eq_none (by simp; omega)]
theorem mapI_congr (m : Nat) (f g : Nat → Int) (h : ∀ j, j < m → f j = g j) : mapI m f = mapI m g := List.map_congr_left fun j hj => h j (List.mem_range.1 hj)

/-- All numbers of the first i rows, and the first k of row i. -/
def upN (L : List (List Nat)) (i k : Nat) : List Nat := (L.take i).flatten ++ (L.getD i []).take k
theorem upN_zero (L : List (List Nat)) : upN L 0 0 = [] := by simp [upN]
theorem upN_row (L : List (List Nat)) (j : Nat) (h : j < L.length) : upN L j (L.getD j []).length = upN L (j + 1) 0 := by
  unfold upN
  rw [List.take_length, List.take_succ_eq_append_getElem h, List.flatten_append, List.getD_eq_getElem?_getD]
  simp [h]
theorem upN_next (L : List (List Nat)) (j k : Nat) (h : k < (L.getD j []).length) : upN L j (k + 1) = upN L j k ++ [(L.getD j []).getD k 0] := by
  unfold upN
  rw [List.take_succ_eq_append_getElem h, ← List.append_assoc]
  congr 2
  rw [List.getD_eq_getElem?_getD (l := L.getD j []), List.getElem?_eq_getElem h]
  rfl
theorem upN_all (L : List (List Nat)) : upN L L.length 0 = L.flatten := by simp [upN]
/-- In which row a number lies. -/
def pt (L : List (List Nat)) (a : Nat) : Nat := L.findIdx fun l => decide (a ∈ l)
theorem two_rows (a : Nat) : ∀ (L : List (List Nat)) (i j : Nat), i < j → j < L.length → a ∈ L.getD i [] → a ∈ L.getD j [] → 2 ≤ L.flatten.count a
  | [], i, j, _, h, _, _ => absurd h (by simp)
  | x :: t, 0, j + 1, _, hj, h1, h2 => by
    have h3 : 1 ≤ x.count a := List.one_le_count_iff.2 (by simpa using h1)
    have hj' : j < t.length := by simpa using hj
    have h4 : a ∈ t.flatten := by
      refine List.mem_flatten.2 ⟨t.getD j [], ?_, by simpa using h2⟩
      rw [List.getD_eq_getElem?_getD, List.getElem?_eq_getElem hj']
      exact List.getElem_mem hj'
    have h5 : 1 ≤ t.flatten.count a := List.one_le_count_iff.2 h4
    rw [List.flatten_cons, List.count_append]
    omega
  | x :: t, i + 1, j + 1, hij, hj, h1, h2 => by
    have := two_rows a t i j (by omega) (by simpa using hj) (by simpa using h1) (by simpa using h2)
    rw [List.flatten_cons, List.count_append]
    omega
theorem pt_is {L : List (List Nat)} {a i : Nat} (h1 : L.flatten.count a = 1) (hi : i < L.length) (ha : a ∈ L.getD i []) : pt L a = i := by
  have hle : pt L a ≤ i := by
    refine Classical.byContradiction fun hc => ?_
    have := List.not_of_lt_findIdx (p := fun l => decide (a ∈ l)) (xs := L) (i := i) (by unfold pt at hc; omega)
    rw [List.getD_eq_getElem?_getD, List.getElem?_eq_getElem hi] at ha
    simp at this
    exact this (by simpa using ha)
  rcases Nat.lt_or_ge (pt L a) i with h | h
  · have hl : pt L a < L.length := by omega
    have hm := List.findIdx_getElem (p := fun l => decide (a ∈ l)) (xs := L) (w := hl)
    have hm2 : a ∈ L.getD (pt L a) [] := by
      rw [List.getD_eq_getElem?_getD, List.getElem?_eq_getElem hl]
      exact of_decide_eq_true hm
    have := two_rows a L (pt L a) i h hi hm2 ha
    omega
  · omega
theorem pt_lt {L : List (List Nat)} {a : Nat} (h1 : L.flatten.count a = 1) : pt L a < L.length := by
  have : a ∈ L.flatten := List.one_le_count_iff.1 (by omega)
  obtain ⟨l, hl, ha⟩ := List.mem_flatten.1 this
  exact List.findIdx_lt_length_of_exists ⟨l, hl, by simpa using ha⟩
theorem pt_mem {L : List (List Nat)} {a i : Nat} (h1 : L.flatten.count a = 1) (hi : i < L.length) : a ∈ L.getD i [] ↔ pt L a = i := by
  constructor
  · exact pt_is h1 hi
  · intro e
    have hl : pt L a < L.length := by omega
    have hm := List.findIdx_getElem (p := fun l => decide (a ∈ l)) (xs := L) (w := hl)
    rw [← e, List.getD_eq_getElem?_getD, List.getElem?_eq_getElem hl]
    exact of_decide_eq_true hm
/-- The rows' numbers, painted so far. -/
def paint (L : List (List Nat)) (i k a : Nat) : Int := if a ∈ upN L i k then (pt L a : Int) else 0
theorem paint_next (L : List (List Nat)) (m i k : Nat) (h1 : ∀ a, a ∈ L.flatten → L.flatten.count a = 1) (hi : i < L.length) (hk : k < (L.getD i []).length) : (mapI m (paint L i k)).set ((L.getD i []).getD k 0) (i : Int) = mapI m (paint L i (k + 1)) := by
  have hmem : (L.getD i []).getD k 0 ∈ L.getD i [] := by
    rw [List.getD_eq_getElem?_getD (l := L.getD i []), List.getElem?_eq_getElem hk]
    exact List.getElem_mem hk
  have hfl : (L.getD i []).getD k 0 ∈ L.flatten := by
    refine List.mem_flatten.2 ⟨L.getD i [], ?_, hmem⟩
    rw [List.getD_eq_getElem?_getD, List.getElem?_eq_getElem hi]
    exact List.getElem_mem hi
  have hp := pt_is (h1 _ hfl) hi hmem
  refine mapI_set _ _ _ _ _ fun j _ => ?_
  unfold paint
  rw [upN_next L i k hk]
  by_cases e : j = (L.getD i []).getD k 0
  · rw [if_pos e, e, if_pos (by simp), hp]
  · rw [if_neg e]
    simp only [List.mem_append, List.mem_singleton]
    by_cases h : j ∈ upN L i k
    · rw [if_pos h, if_pos (Or.inl h)]
    · rw [if_neg h, if_neg (fun hh => hh.elim h e)]
end Go.Proofs.Ytiighhmgegkemaa
