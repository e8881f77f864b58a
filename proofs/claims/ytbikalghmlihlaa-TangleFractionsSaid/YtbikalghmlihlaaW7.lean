/- The walk of gauss.signs; rows of visits and of signs that are the same. -/
import Derived.Test.YtbikalghmlihlaaW6
namespace Go.Proofs.Ytbikalghmlihlaa
open Go.RowKit

/-- The signs of the crossings. -/
def plusM (C : List Cr) : List Bool := C.map Cr.plus
def plusTo (C : List Cr) (i : Nat) : List Bool := plusM (C.take i) ++ List.replicate (C.length - i) false
theorem plus_len (C : List Cr) (i : Nat) (h : i ≤ C.length) : (plusTo C i).length = C.length := by simp [plusTo, plusM]; omega
theorem plus_next (C : List Cr) (i : Nat) (h : i < C.length) : (plusTo C i).set i (C.getD i Cr.none).plus = plusTo C (i + 1) := by
  unfold plusTo plusM
  rw [List.set_append_right _ _ (by simp; omega)]
  have e : C.length - i = (C.length - (i + 1)) + 1 := by omega
  have e2 : C.take (i + 1) = C.take i ++ [C.getD i Cr.none] := by
    rw [List.take_add_one, List.getD_eq_getElem?_getD, List.getElem?_eq_getElem h]
    rfl
  rw [e2, List.map_append, e, List.replicate_succ]
  simp [Nat.min_eq_left (Nat.le_of_lt h)]
theorem plus_all (C : List Cr) : plusTo C C.length = plusM C := by simp [plusTo]

set_option maxHeartbeats 4000000 in
set_option maxRecDepth 100000 in
theorem signs_any (a : Option Addr) (cap : Nat) (C : List Cr) (loops : Int) (gF cF gT cT : Nat) (w : World) (hm : mayD C loops = true) (hD : Dr w a cap C gF gT) :
    Calls Try.prog 67 #[drV a cap C loops gF cF gT cT] w fun e w' => ∃ v, e = .returned v ∧ w'.ownsRow w.heap.size 4 1 v C.length (bools (plusM C)) ∧ Below w.heap.size w w' := by
  obtain ⟨s1, -, -, -⟩ := sizeB_iff (may_size hm)
  obtain ⟨i2, hk, hx0, hx1, hx2⟩ := info_parts infoBool
  unfold drV
  have HD : Hid (Dr w a cap C gF gT) := hD
  clear hm hD
  obtain ⟨w0, hw0⟩ : ∃ w0, w0 = w.alloc (.cells #[.slice a C.length cap, .int .i64 loops, .slice (some ⟨gF, 0, none⟩) (2 * C.length + 1) cF, .slice (some ⟨gT, 0, none⟩) (2 * C.length + 1) cT] 103) := ⟨_, rfl⟩
  have HW0 : Hid (w0 = w.alloc (.cells #[.slice a C.length cap, .int .i64 loops, .slice (some ⟨gF, 0, none⟩) (2 * C.length + 1) cF, .slice (some ⟨gT, 0, none⟩) (2 * C.length + 1) cT] 103)) := hw0
  have hs0 : w0.heap.size = w.heap.size + 1 := by rw [hw0]; simp
  have HB0 : Hid (Below w.heap.size w w0) := (by rw [hw0]; exact (Below.refl _ _).alloc (Nat.le_refl _) _ : Below w.heap.size w w0)
  have HT0 : Hid (w0.heap[w.heap.size]? = some (.cells #[.slice a C.length cap, .int .i64 loops, .slice (some ⟨gF, 0, none⟩) (2 * C.length + 1) cF, .slice (some ⟨gT, 0, none⟩) (2 * C.length + 1) cT] 103 (0, 0))) := (by rw [hw0]; exact alloc_at rfl : w0.heap[w.heap.size]? = some (.cells #[.slice a C.length cap, .int .i64 loops, .slice (some ⟨gF, 0, none⟩) (2 * C.length + 1) cF, .slice (some ⟨gT, 0, none⟩) (2 * C.length + 1) cT] 103 (0, 0)))
  clear hw0
  go_enter Try.func67, Try.ntmps67
  go_wp2_with (first | (at_make; refine wpList_make_full _ rfl _ _ 27 rfl (w.heap.size + 1) 4 i2 (.bool false) 1 Try.underlying27 hk hx0 hx1 .i64 .i64 _ _ C.length rfl rfl rfl rfl (by rw [hx2]; omega) (by unfold maxLen; omega) (by simp) ?_; intro w1 hrow hg1; refine Hid.out ?_))
  refine Lib.hid ?_
  rw [← HW0.out] at hrow hg1
  rw [made_false, hs0] at hrow
  have hr0 : w1.ownsRow (w.heap.size + 1) 4 1 (.slice (some ⟨w.heap.size + 1, 0, none⟩) C.length C.length) C.length (bools (plusTo C 0)) := by
    have e : plusTo C 0 = List.replicate C.length false := by simp [plusTo, plusM]
    rw [e]
    exact hrow
  have c0 : w1.cell? ⟨w.heap.size, 0, none⟩ = some (.slice a C.length cap) := block_cell ((hg1.block _ (by omega) (by simp)).trans HT0.out) rfl
  have hb1 : Below w.heap.size w w1 := HB0.out.grown hg1 (by omega) (fun k hk => by cases hk)
  have hs1 : w.heap.size + 1 ≤ w1.heap.size := by have := hg1.size; omega
  clear hrow hg1 HT0 HB0 HW0
  go_wp2
  go_loopw [15] (fun v15 wr => ∃ i : Nat, i ≤ C.length ∧ v15 = .int .i64 i ∧ wr.ownsRow (w.heap.size + 1) 4 1 (.slice (some ⟨w.heap.size + 1, 0, none⟩) C.length C.length) C.length (bools (plusTo C i)) ∧ Below w.heap.size w wr) (fun v15 _ => C.length - (intOf v15).toNat)
  case atStart => exact ⟨0, Nat.zero_le _, rfl, hr0, hb1⟩
  case round =>
    clear hr0 hb1 c0
    obtain ⟨i, hin, rfl, hrow, hb⟩ := hrel
    by_cases hil : i < C.length
    · obtain ⟨b, off, rfl, hbw, hC⟩ := HD.out.cross (by omega)
      obtain ⟨c0, c1, c2, c3, c4⟩ := (hC.on hb hbw) i hil
      have hrA := hrow.alloc (.cells #[.int .i64 (C.getD i Cr.none).a, .int .i64 (C.getD i Cr.none).b, .int .i64 (C.getD i Cr.none).c, .int .i64 (C.getD i Cr.none).d, .bool (C.getD i Cr.none).plus] 114)
      have hst := hrow.stored i (.bool (C.getD i Cr.none).plus)
      rw [bools_set, plus_next C i hil] at hst
      have e0 := hrA.cellAt i (by omega)
      rw [bools_get _ i (by rw [plus_len C i hin]; exact hil)] at e0
      have z0 := hrA.frozenAt i
      have hgl := (hrow.lt (w.heap.size + 1) rfl).2
      have HR2 : Hid (_ ∧ _) := hst
      have hbr : b < wr.heap.size := by have := hb.size; omega
      clear hC hst hrA
      generalize C.getD i Cr.none = x at c0 c1 c2 c3 c4 e0 z0 HR2
      generalize (plusTo C i).getD i true = u at e0
      go_wp2
      go_roundw
      case rel => exact ⟨i + 1, by omega, by go_num, HR2.out.1.alloc _, (hb.grown HR2.out.2 hb.size (fun q hq => by have := Option.some.inj hq; omega)).alloc (by have := hb.size; simp; omega) _⟩
      case measure => simp only [intOf]; omega
    · obtain rfl : i = C.length := by omega
      rw [plus_all] at hrow
      go_wp2
      go_ret
      exact ⟨_, rfl, own_low hrow (by omega), hb⟩

theorem eqVisit (a c : Int) (b d : Bool) (w : World) : (Op.equalIn 10000 182 (.agg #[.int .i64 a, .bool b]) (.agg #[.int .i64 c, .bool d])).run Try.prog w = .ok (a == c && b == d) w := by
  have u3 := Try.underlying3
  have a3 := Try.isAgg3
  have z3 := Try.sizeOf3
  have u4 := Try.underlying4
  have a4 := Try.isAgg4
  have z4 := Try.sizeOf4
  have hS : Try.prog.underlying 182 = some (.struct (Try.prog.fieldsOf 182)) := by kernel_rfl
  have hp : Try.prog.stoodInHeld 182 = false := by kernel_rfl
  rw [show (10000 : Nat) = 9999 + 1 from rfl, run_equalIn_agg w 9999 182 _ _ hS hp]
  simp only [Program.fieldsOf, Try.underlying182]
  go_simp
  by_cases h1 : a = c <;> by_cases h2 : b = d <;> simp [h1, h2]
theorem neqVisit (a : Int) (b : Bool) (w : World) : (binOp .neq 182 (.agg #[.int .i64 a, .bool b]) (.agg #[.int .i64 a, .bool b])).run Try.prog w = .ok (.bool false) w := by
  rw [run_neq_struct, eqVisit]
  simp [Result.andThen]

/-- A list of visits as one looks at it. -/
def VS (w : World) (v : Value) (V : List (Nat × Bool)) : Prop := ∃ a cap, v = .slice a V.length cap ∧ (0 < V.length → ∃ b off, a = some ⟨b, off, none⟩ ∧ b < w.heap.size ∧ ∀ i, i < V.length → w.cell? ⟨b, off + i * 2, none⟩ = some (.int .i64 ((V.getD i (0, false)).1 : Nat)) ∧ w.cell? ⟨b, off + i * 2 + 1, none⟩ = some (.bool (V.getD i (0, false)).2))
def VsAt (w : World) (v : Value) (L : List (List (Nat × Bool))) : Prop := ∃ ys : List Value, ys.length = L.length ∧ Slots w w.heap.size v ys ∧ ∀ j, j < L.length → VS w (ys.getD j (.bool false)) (L.getD j [])
theorem vs_own {w : World} {B e : Nat} {v : Value} {V : List (Nat × Bool)} (h : w.ownsRow B e 2 v V.length (vflat V)) : VS w v V := by
  have h0 := h
  rcases h.2 with ⟨rfl, h1⟩ | ⟨g, cap, cur, rfl, _, _, _⟩
  · exact ⟨none, 0, by rw [h1], fun hp => by omega⟩
  · refine ⟨some ⟨g, 0, none⟩, cap, rfl, fun _ => ⟨g, 0, rfl, (h0.lt g rfl).2, fun i hi => ?_⟩⟩
    have g0 := vflat_get V i hi
    rw [Nat.zero_add]
    exact ⟨(h0.cellAt (i * 2) (by omega)).trans g0.1, (h0.cellAt (i * 2 + 1) (by omega)).trans g0.2⟩
theorem VisOwn.vs {w : World} {B : Nat} {v : Value} {L : List (List (Nat × Bool))} (h : VisOwn w B v L) : VsAt w v L := by
  obtain ⟨ys, h1, h2, h3⟩ := h
  exact ⟨ys, h1, slots_of_own h2, fun j hj => vs_own (h3 j hj)⟩
theorem VS.on {w w' : World} {v : Value} {V : List (Nat × Bool)} (h : VS w v V) (hb : Below w.heap.size w w') : VS w' v V := by
  obtain ⟨a, cap, rfl, g⟩ := h
  refine ⟨a, cap, rfl, fun hp => ?_⟩
  obtain ⟨b, off, rfl, hlt, hc⟩ := g hp
  exact ⟨b, off, rfl, Nat.lt_of_lt_of_le hlt hb.size, fun i hi => ⟨bcell hb hlt (hc i hi).1, bcell hb hlt (hc i hi).2⟩⟩
theorem VsAt.on {w w' : World} {v : Value} {L : List (List (Nat × Bool))} (h : VsAt w v L) (hb : Below w.heap.size w w') : VsAt w' v L := by
  obtain ⟨ys, h1, h2, h3⟩ := h
  exact ⟨ys, h1, (h2.on hb).mono hb.size, fun j hj => (h3 j hj).on hb⟩

end Go.Proofs.Ytbikalghmlihlaa
